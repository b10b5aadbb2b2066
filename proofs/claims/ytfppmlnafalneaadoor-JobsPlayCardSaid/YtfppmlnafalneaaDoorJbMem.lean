/- Plain lemmas on a queue of jobs in memory, and on the two errors that the package holds. No condition beyond those that each lemma names. -/
import Derived.Test.YtfppmlnafalneaaDoorQue
import Derived.Test.YtfppmlnafalneaaDoorTbLocks
import Derived.Test.YtfppmlnafalneaaDoorErrIs
import Derived.Conc.MuLone
namespace Go.Proofs.YtfppmlnafalneaaDoor
open Go.ChangeShapes Go.WideShapes Go.ChangeAt Go.RowKit Go.MuLone

/-- a job without shards. -/
structure Jb where
  s : Int
  b : Int
  k : Int
  n : Int
  l : Int
def Jb.cells (x : Jb) : List Value := [.int .i64 x.s, .int .u32 x.b, .int .i64 x.k, .int .i64 x.n, .int .i64 x.l, .slice none 0 0]
abbrev Jb.val (x : Jb) : Value := .agg #[.int .i64 x.s, .int .u32 x.b, .int .i64 x.k, .int .i64 x.n, .int .i64 x.l, .slice none 0 0]
def jb0 : Jb := ⟨0, 0, 0, 0, 0⟩
def jcells : List Jb → List Value
  | [] => []
  | x :: r => x.cells ++ jcells r
theorem jcells_len (l : List Jb) : (jcells l).length = l.length * 6 := by
  induction l with
  | nil => rfl
  | cons x r ih => show (x.cells ++ jcells r).length = _; rw [List.length_append, ih, List.length_cons, Nat.succ_mul, Nat.add_comm]; rfl
theorem jcells_app (l r : List Jb) : jcells (l ++ r) = jcells l ++ jcells r := by
  induction l with
  | nil => rfl
  | cons x l ih => show x.cells ++ jcells (l ++ r) = (x.cells ++ jcells l) ++ jcells r; rw [ih, List.append_assoc]
theorem jb_one (x : Jb) : ∀ u ∈ x.cells, u.oneCell' = true := by
  intro u hu
  simp only [Jb.cells, List.mem_cons, List.not_mem_nil, or_false] at hu
  rcases hu with rfl | rfl | rfl | rfl | rfl | rfl <;> rfl
theorem jcells_one (l : List Jb) : ∀ u ∈ jcells l, u.oneCell' = true := by
  induction l with
  | nil => intro u hu; simp [jcells] at hu
  | cons x r ih =>
    intro u hu
    rcases List.mem_append.1 (show u ∈ x.cells ++ jcells r from hu) with h | h
    · exact jb_one x u h
    · exact ih u h
theorem infoJob : (Tryd.prog.info? 37).map (fun i => (i.zero, i.size, i.bytes)) = some (some jb0.val, 6, 64) := by kernel_rfl

/-! ### the errors -/
/-- the package's errors lie in memory, below B: the first one is at a0, the second one at a1. -/
structure Er (w : World) (B : Nat) (a0 a1 : Addr) : Prop where
  c0 : w.cell? ⟨0, 0, none⟩ = some (erv a0)
  c1 : w.cell? ⟨1, 0, none⟩ = some (erv a1)
  ne : a0 ≠ a1
  h0 : ∃ c t, w.heap[a0.block]? = some (.cells c t (0, 0))
  h1 : ∃ c t, w.heap[a1.block]? = some (.cells c t (0, 0))
  low : 0 < B ∧ 1 < B ∧ a0.block < B ∧ a1.block < B
theorem Er.tn {c : Nat → Prop} {w w' : World} {B : Nat} {a0 a1 : Addr} (h : Er w B a0 a1) (t : Tn c w w') (hc : ∀ i, i < B → ¬ c i) : Er w' B a0 a1 := by
  have cell : ∀ p u, p.block < B → w.cell? p = some u → w'.cell? p = some u := fun p u hp e => by
    rw [← e]; exact World.cell?_of_block (t.block _ (World.block_lt_of_cell? w _ e) (hc _ hp))
  have row : ∀ g o, g < B → w.heap[g]? = some o → w'.heap[g]? = some o := fun g o hg e => (t.block g (Array.getElem?_eq_some_iff.1 e).1 (hc _ hg)).trans e
  obtain ⟨c, ty, h2⟩ := h.h0
  obtain ⟨c', ty', h3⟩ := h.h1
  exact ⟨cell _ _ h.low.1 h.c0, cell _ _ h.low.2.1 h.c1, h.ne, ⟨c, ty, row _ _ h.low.2.2.1 h2⟩, ⟨c', ty', row _ _ h.low.2.2.2 h3⟩, h.low⟩
theorem Er.free {w w' : World} {B : Nat} {a0 a1 : Addr} (h : Er w B a0 a1) (t : Tn Nil w w') : Er w' B a0 a1 := h.tn t (fun _ _ e => e)
/-- why nothing comes in. -/
def whyV (cl full : Bool) (a0 a1 : Addr) : Value := if cl = true then erv a0 else if full = true then erv a1 else .nilIface
/-- what is answered of that. -/
def whyE (cl full : Bool) : Int := if cl = true then 11 else if full = true then 9 else 0

/-! ### the queue -/
/-- a queue's blocks are from B on. -/
def From (B b : Nat) (r : Option Nat) : Prop := B ≤ b ∧ ∀ g, r = some g → B ≤ g
abbrev ptv (p : Nat) : Value := .pointer (some ⟨p, 0, none⟩)
/-- The queue's block is b, its row's r. -/
structure Qe (w : World) (b : Nat) (r : Option Nat) (room : Int) (S : List Jb) (cl : Bool) (ls : Int) (v : Value) : Prop where
  at_ : At w b 52 [.int .i32 ls, .int .u32 0, .int .i64 room, v, .bool cl]
  row : Qu w r 37 6 v S.length (jcells S)
  ne : ∀ g, r = some g → g ≠ b
section
variable {w w' : World} {b : Nat} {r : Option Nat} {room : Int} {S : List Jb} {cl : Bool} {ls : Int} {v : Value}
/-- a queue's own blocks. -/
abbrev Mine (b : Nat) (r : Option Nat) : Nat → Prop := fun i => i = b ∨ r = some i
theorem Qe.tn {c : Nat → Prop} (h : Qe w b r room S cl ls v) (t : Tn c w w') (hb : ¬ c b) (hr : ∀ g, r = some g → ¬ c g) : Qe w' b r room S cl ls v :=
  ⟨h.at_.tn t hb, h.row.tn t hr, h.ne⟩
theorem Qe.free (h : Qe w b r room S cl ls v) (t : Tn Nil w w') : Qe w' b r room S cl ls v := h.tn t (fun e => e) (fun _ _ e => e)
theorem tn_set (w : World) (b j : Nat) (u : Value) : Tn (fun i => i = b) w (w.setCell ⟨b, j, none⟩ u) := (Tn.refl (fun i => i = b) w).set ⟨b, j, none⟩ u (fun _ => rfl)
theorem Qe.lock (h : Qe w b r room S cl ls v) (x : Int) : Qe (w.setCell ⟨b, 0, none⟩ (.int .i32 x)) b r room S cl x v :=
  ⟨h.at_.set_ 0 _, h.row.tn (tn_set w b 0 _) h.ne, h.ne⟩
theorem Qe.shut (h : Qe w b r room S cl ls v) (x : Bool) : Qe (w.setCell ⟨b, 4, none⟩ (.bool x)) b r room S x ls v :=
  ⟨h.at_.set_ 4 _, h.row.tn (tn_set w b 4 _) h.ne, h.ne⟩
theorem jb_lock (h : Qe w b r room S cl 0 v) :
    Calls Tryd.prog 12 #[ptv b] w fun e w' => e = .returned (.tuple #[]) ∧ Qe w' b r room S cl 1 v ∧ Tn (fun i => i = b) w w' := by
  refine (lock_free Tryd.muLib ⟨b, 0, none⟩ _ (h.at_.cell 0 rfl) (h.at_.free 0)).mono ?_
  rintro e w' ⟨rfl, rfl⟩
  exact ⟨rfl, h.lock 1, tn_set w b 0 _⟩
theorem jb_unlock (h : Qe w b r room S cl 1 v) (u : FrameMode) :
    CallsD Tryd.prog 13 #[ptv b] u w fun e u' w' => u' = u ∧ (e = .returned (.tuple #[]) ∧ Qe w' b r room S cl 0 v ∧ Tn (fun i => i = b) w w') := by
  refine (unlock_deferred Tryd.muLib ⟨b, 0, none⟩ u _ (h.at_.cell 0 rfl) (h.at_.free 0)).mono ?_
  rintro e u' w' ⟨rfl, rfl, rfl⟩
  exact ⟨rfl, rfl, h.lock 0, tn_set w b 0 _⟩
end
end Go.Proofs.YtfppmlnafalneaaDoor

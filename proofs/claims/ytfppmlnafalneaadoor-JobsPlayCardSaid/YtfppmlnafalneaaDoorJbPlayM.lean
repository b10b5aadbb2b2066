/- Plain lemmas on a queue of jobs and a row of keys beside it. No condition beyond those that each lemma names. -/
import Derived.Test.YtfppmlnafalneaaDoorJbArg
namespace Go.Proofs.YtfppmlnafalneaaDoor
open Go.ChangeShapes Go.WideShapes Go.ChangeAt Go.RowKit Go.MuLone

def Ke.cells (k : Ke) : List Value := [.int .i64 k.s, .int .u32 k.b]
def Ke.job (k : Ke) : Jb := ⟨k.s, k.b, 0, 0, 0⟩
def kcells : List Ke → List Value
  | [] => []
  | x :: r => x.cells ++ kcells r
theorem kcells_len (l : List Ke) : (kcells l).length = l.length * 2 := by
  induction l with
  | nil => rfl
  | cons x r ih => show (x.cells ++ kcells r).length = _; rw [List.length_append, ih, List.length_cons, Nat.succ_mul, Nat.add_comm]; rfl
theorem kcells_app (l r : List Ke) : kcells (l ++ r) = kcells l ++ kcells r := by
  induction l with
  | nil => rfl
  | cons x l ih => show x.cells ++ kcells (l ++ r) = (x.cells ++ kcells l) ++ kcells r; rw [ih, List.append_assoc]
theorem ke_one (x : Ke) : ∀ u ∈ x.cells, u.oneCell' = true := by
  intro u hu
  simp only [Ke.cells, List.mem_cons, List.not_mem_nil, or_false] at hu
  rcases hu with rfl | rfl <;> rfl
theorem kcells_one (l : List Ke) : ∀ u ∈ kcells l, u.oneCell' = true := by
  induction l with
  | nil => intro u hu; simp [kcells] at hu
  | cons x r ih =>
    intro u hu
    rcases List.mem_append.1 (show u ∈ x.cells ++ kcells r from hu) with h | h
    · exact ke_one x u h
    · exact ih u h
theorem infoKey : (Tryd.prog.info? 31).map (fun i => (i.zero, i.size, i.bytes)) = some (some (.agg #[.int .i64 0, .int .u32 0]), 2, 16) := by kernel_rfl
theorem neq_key (s b : Int) (w : World) : (binOp .neq 31 (.agg #[.int .i64 s, .int .u32 b]) (.agg #[.int .i64 s, .int .u32 b])).run Tryd.prog w = .ok (.bool false) w := by
  rw [run_neq_struct, run_equalIn_agg w _ 31 _ _ (by kernel_rfl) (by kernel_rfl)]
  simp [go_sem, Tryd.underlying31]
/-- a queue made since w0, and a row of keys made since. -/
def Jp (w0 W : World) (b : Nat) (room : Int) (S : List Jb) (cl : Bool) (v : Value) (K : List Ke) : Prop :=
  ∃ r h, JB w0 W b r room S cl ∧ Qu W h 31 2 v K.length (kcells K) ∧ ∀ g, h = some g → g ≠ b ∧ r ≠ some g ∧ szW w0 ≤ g
section
variable {w0 W W' : World} {b : Nat} {room : Int} {S S' : List Jb} {cl : Bool} {v : Value} {K : List Ke} {B : Nat} {a0 a1 : Addr}
theorem Jp.tn (h : Jp w0 W b room S cl v K) : Tn Nil w0 W := by
  obtain ⟨r, g, hj, _⟩ := h
  exact hj.t
theorem Jp.form (h : Jp w0 W b room S cl v K) : ∃ A cap, v = .slice A K.length cap := by
  obtain ⟨r, g, _, hq, _⟩ := h
  exact hq.form
theorem Jp.free (h : Jp w0 W b room S cl v K) (t : Tn Nil W W') : Jp w0 W' b room S cl v K := by
  obtain ⟨r, g, hj, hq, hg⟩ := h
  exact ⟨r, g, hj.free t, hq.tn t (fun _ _ e => e), hg⟩
theorem Jp.step {r r' g : Option Nat} {cl' : Bool} (hj : JB w0 W' b r' room S' cl') (f : Fr b W r W' r') (hq : Qu W g 31 2 v K.length (kcells K)) (hg : ∀ x, g = some x → x ≠ b ∧ r ≠ some x ∧ szW w0 ≤ x) : Jp w0 W' b room S' cl' v K := by
  refine ⟨r', g, hj, hq.tn f.tn fun x e m => ?_, fun x e => ⟨(hg x e).1, fun q => ?_, (hg x e).2.2⟩⟩
  · rcases m with m | m
    · exact (hg x e).1 m
    · exact (hg x e).2.1 m
  · rcases f.nr with k | ⟨y, k, hy⟩
    · exact (hg x e).2.1 (k ▸ q)
    · rw [k] at q; injection q with q; have := hq.lt e; unfold szW at hy; omega
theorem Jp.append (h : Jp w0 W b room S cl v K) (hn : K.length ≤ 65536) (s c : Int) :
    ∃ v' w3, (Builtin.append_ #[28, 28] 28 #[v, .slice (some ⟨W.heap.size, 0, none⟩) 1 1]).run Tryd.prog (W.alloc (.cells #[.int .i64 s, .int .u32 c] 31)) = .ok v' w3 ∧ Jp w0 w3 b room S cl v' (K ++ [⟨s, c⟩]) := by
  have t1 : Tn Nil W (W.alloc (.cells #[.int .i64 s, .int .u32 c] 31)) := (Tn.refl Nil W).alloc _
  have hat := At.new W 31 [.int .i64 s, .int .u32 c]
  obtain ⟨r, g, hj, hq, hg⟩ := h.free t1
  obtain ⟨v', w3, g', hrun, hq', hg', t3⟩ := hq.append (t := 28) (ty := 28) Tryd.underlying28 infoKey rfl (by decide) (by decide) hn (a := ⟨W.heap.size, 0, none⟩) (cp := 1) (news := Ke.cells ⟨s, c⟩) rfl (fun j u hj => by
    rw [Addr.add_lit, Nat.zero_add]
    exact hat.cell j hj) (ke_one _) (kcells_one _)
  refine ⟨v', w3, hrun, r, g', hj.own t3 (fun x _ e => hg x e), ?_, fun x e => ?_⟩
  · rw [kcells_app, List.length_append]
    exact hq'
  · rcases hg' with k | ⟨y, k, hy⟩
    · exact hg x (k ▸ e)
    · rw [k] at e; injection e with e; subst e
      have hnw := hj.q
      obtain ⟨u, hu⟩ := hnw
      refine ⟨fun q => ?_, fun q => ?_, Nat.le_trans hj.t.size hy⟩
      · have := hu.at_.lt; omega
      · have := hu.row.lt q; omega
theorem Jp.rest {k : Ke} (h : Jp w0 W b room S cl v (k :: K)) : ∃ A cap, (∀ X : World, (Instr.slice 28 v (some (.int .i64 1)) none none).run Tryd.prog X = .ok (.slice A K.length cap) X) ∧ Jp w0 W b room S cl (.slice A K.length cap) K := by
  obtain ⟨r, g, hj, hq, hg⟩ := h
  obtain ⟨v', hrun, hq', A, cap, rfl⟩ := Qu.rest Tryd.underlying28 infoKey (by decide) hq
  exact ⟨A, cap, hrun, r, g, hj, hq', hg⟩
theorem Jp.first {k : Ke} (h : Jp w0 W b room S cl v (k :: K)) : ∃ g o cap, v = .slice (some ⟨g, o, none⟩) (K.length + 1) cap ∧ ∀ X, Tn Nil W X → X.cell? ⟨g, o, none⟩ = some (.int .i64 k.s) ∧ X.cell? ⟨g, o + 1, none⟩ = some (.int .u32 k.b) := by
  obtain ⟨r, g, hj, hq, hg⟩ := h
  obtain ⟨x, o, cap, hx, hv, hlt, _, _, _⟩ := hq.head (by simp)
  refine ⟨x, o, cap, hv, fun X t => ?_⟩
  obtain ⟨x', o', cap', hx', hv', _, _, hc, _⟩ := (hq.tn t (fun _ _ e => e)).head (by simp)
  rw [hv] at hv'
  injection hv' with hv'
  injection hv' with hv'
  injection hv' with e1 e2
  subst e1; subst e2
  exact ⟨hc 0 _ rfl, hc 1 _ rfl⟩
theorem jp_push (E : Er w0 B a0 a1) (hB : B ≤ szW w0) (h : Jp w0 W b room S cl v K) (hn : S.length ≤ 65536) (s c : Int) {n : Int} (he : pushE S room cl = n) (hs : pushS S room cl ⟨s, c, 0, 0, 0⟩ = S') :
    Calls Tryd.prog 7 #[.pointer (some ⟨b, 0, none⟩), .agg #[.int .i64 s, .int .u32 c, .int .i64 0, .int .i64 0, .int .i64 0, .slice none 0 0]] W fun e w' => e = .returned (.int .i64 n) ∧ Jp w0 w' b room S' cl v K := by
  obtain ⟨r, g, hj, hq, hg⟩ := h
  refine (jB_push E hB hj hn ⟨s, c, 0, 0, 0⟩ he hs).mono ?_
  rintro e w' ⟨rfl, r', hj', f⟩
  exact ⟨rfl, Jp.step hj' f hq hg⟩
theorem jp_pop (h : Jp w0 W b room S cl v K) {x : Jb} {z : Bool} (hx : popJ S = x) (hz : popB S = z) (hs : S.tail = S') :
    Calls Tryd.prog 8 #[.pointer (some ⟨b, 0, none⟩)] W fun e w' => e = .returned (.tuple #[.agg #[.int .i64 x.s, .int .u32 x.b, .int .i64 x.k, .int .i64 x.n, .int .i64 x.l, .slice none 0 0], .bool z]) ∧ Jp w0 w' b room S' cl v K := by
  obtain ⟨r, g, hj, hq, hg⟩ := h
  refine (jB_pop hj hx hz hs).mono ?_
  rintro e w' ⟨rfl, hj', f⟩
  exact ⟨rfl, Jp.step hj' f hq hg⟩
theorem jp_close (h : Jp w0 W b room S cl v K) {n : Int} (he : (if cl = true then 11 else 0) = n) :
    Calls Tryd.prog 9 #[.pointer (some ⟨b, 0, none⟩)] W fun e w' => e = .returned (.int .i64 n) ∧ Jp w0 w' b room S true v K := by
  obtain ⟨r, g, hj, hq, hg⟩ := h
  refine (jB_close hj he).mono ?_
  rintro e w' ⟨rfl, hj', f⟩
  exact ⟨rfl, Jp.step hj' f hq hg⟩
theorem jp_len (h : Jp w0 W b room S cl v K) {n : Nat} (he : S.length = n) :
    Calls Tryd.prog 10 #[.pointer (some ⟨b, 0, none⟩)] W fun e w' => e = .returned (.int .i64 n) ∧ Jp w0 w' b room S cl v K := by
  obtain ⟨r, g, hj, hq, hg⟩ := h
  refine (jB_len hj he).mono ?_
  rintro e w' ⟨rfl, hj', f⟩
  exact ⟨rfl, Jp.step hj' f hq hg⟩
theorem jp_closed (h : Jp w0 W b room S cl v K) :
    Calls Tryd.prog 11 #[.pointer (some ⟨b, 0, none⟩)] W fun e w' => e = .returned (.bool cl) ∧ Jp w0 w' b room S cl v K := by
  obtain ⟨r, g, hj, hq, hg⟩ := h
  refine (jB_closed hj).mono ?_
  rintro e w' ⟨rfl, hj', f⟩
  exact ⟨rfl, Jp.step hj' f hq hg⟩
end
end Go.Proofs.YtfppmlnafalneaaDoor

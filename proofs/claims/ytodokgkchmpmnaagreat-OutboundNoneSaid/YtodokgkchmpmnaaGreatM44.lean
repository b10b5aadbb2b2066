/- Proved: lemmas of one statement's proof, merged by program: what each part proves stands ahead of it. Conditions: those that the lemmas name. -/
import Derived.Test.YtodokgkchmpmnaaGreatM40
import Derived.Test.YtodokgkchmpmnaaGreatM41
import Derived.Test.YtodokgkchmpmnaaGreatM37
import Derived.Test.YtodokgkchmpmnaaGreatM35
import Derived.Test.YtodokgkchmpmnaaGreatM42
import Derived.Test.YtodokgkchmpmnaaGreatM43

/- Plain lemmas on what a stream sends, in memory. No condition beyond those that each lemma names. -/
namespace Go.Proofs.YtodokgkchmpmnaaGreat
open Go.ChangeShapes Go.WideShapes Go.ChangeAt Go.RowKit

/-! ### blocks by their types -/
/-- Block i holds cells of type t. -/
def ObTy (w : World) (i : Nat) (t : TypeId) : Prop := ∃ c, w.heap[i]? = some (.cells c t (0, 0))
theorem ObTy.ne {w : World} {i j : Nat} {t t' : TypeId} (h : ObTy w i t) (k : ObTy w j t') (n : t ≠ t') : i ≠ j := by
  rintro rfl
  obtain ⟨c, hc⟩ := h
  obtain ⟨d, hd⟩ := k
  rw [hc] at hd
  injection hd with hd
  injection hd with _ hd
  exact n hd
theorem ObTy.lt {w : World} {i : Nat} {t : TypeId} (h : ObTy w i t) : i < w.heap.size := by
  obtain ⟨c, hc⟩ := h
  exact (Array.getElem?_eq_some_iff.1 hc).1
theorem ObTy.one {w : World} {i : Nat} {t t' : TypeId} (h : ObTy w i t) (k : ObTy w i t') : t = t' := by
  obtain ⟨c, hc⟩ := h
  obtain ⟨d, hd⟩ := k
  rw [hc] at hd
  injection hd with hd
  injection hd
theorem At.obty {w : World} {b : Nat} {t : TypeId} {xs : List Value} (h : At w b t xs) : ObTy w b t := ⟨_, h⟩
theorem Qu.obty {w : World} {r : Option Nat} {e : TypeId} {k n : Nat} {v : Value} {xs : List Value} (h : Qu w r e k v n xs) {g : Nat} (hg : r = some g) : ObTy w g e := by
  rcases h.2 with ⟨_, _, e'⟩ | ⟨g', o, cap, cur, e', _, hb, _⟩
  · rw [hg] at e'; cases e'
  · rw [hg] at e'; injection e' with e'; subst e'; exact ⟨_, hb⟩
theorem Rg.obty {w : World} {b r : Nat} {g : Option Nat} {s : ByteArray} (h : Rg w b r g s) : ObTy w b 130 ∧ ∀ x, g = some x → ObTy w x 5 := by
  obtain ⟨n, f, ha, _, _, _, _, l, _, hr, _⟩ := h
  refine ⟨ha.obty, fun x hx => ?_⟩
  rcases hr with ⟨q, _⟩ | ⟨y, hy, _, _, ho⟩
  · rw [q] at hx; cases hx
  · rw [hy] at hx; injection hx with hx; subst hx
    obtain ⟨_, _, cur, hc, _⟩ := ho
    exact ⟨_, hc⟩
theorem Rg.tn {w w' : World} {b r : Nat} {g : Option Nat} {s : ByteArray} {c : Nat → Prop} (h : Rg w b r g s) (t : Tn c w w') (hb : ¬ c b) (hg : ∀ x, g = some x → ¬ c x) : Rg w' b r g s := by
  obtain ⟨n, f, ha, h1, h2, h3, h4, l, hl, hr, hs⟩ := h
  exact ⟨n, f, ha.tn t hb, h1, h2, h3, h4, l, hl, hr.block (fun x hx _ hlt => t.block x hlt (hg x hx)), hs⟩
theorem Bk.tn {w w' : World} {b q n r : Nat} {g : Option Nat} {s : ByteArray} {c : Nat → Prop} (h : Bk w b q n r g s) (t : Tn c w w') (hb : ¬ c b) (hq : ¬ c q) (hg : ∀ x, g = some x → ¬ c x) : Bk w' b q n r g s :=
  ⟨h.1.tn t hb, h.2.1.tn t hq hg, h.2.2⟩
theorem Ce.tn {w w' : World} {b : Nat} {a : Int} {c : Nat → Prop} (h : Ce w b a) (t : Tn c w w') (hb : ¬ c b) : Ce w' b a := ⟨h.1.tn t hb, h.2⟩

/-! ### what a stream sends -/
/-- a block's shards: each one's bytes, and does it wait; how many are data; how many bytes the block has. -/
structure ObS where
  T : List (ByteArray × Bool)
  m : Nat
  z : Nat
def obShc : List (ByteArray × Bool) → List Value
  | [] => []
  | x :: r => .string x.1 :: .bool x.2 :: obShc r
theorem obShc_len (T : List (ByteArray × Bool)) : (obShc T).length = T.length * 2 := by
  induction T with
  | nil => rfl
  | cons x r ih => simp only [obShc, List.length_cons, ih]; omega
theorem obShc_at (T : List (ByteArray × Bool)) (j : Nat) (x : ByteArray × Bool) (h : T[j]? = some x) : (obShc T)[j * 2]? = some (.string x.1) ∧ (obShc T)[j * 2 + 1]? = some (.bool x.2) := by
  induction T generalizing j with
  | nil => simp at h
  | cons y r ih =>
    cases j with
    | zero => simp at h; subst h; exact ⟨rfl, rfl⟩
    | succ j =>
      obtain ⟨h1, h2⟩ := ih j (by simpa using h)
      rw [show (j + 1) * 2 = j * 2 + 1 + 1 by omega]
      exact ⟨h1, h2⟩
theorem obShc_wait (T : List (ByteArray × Bool)) (j : Nat) (x : ByteArray × Bool) (h : T[j]? = some x) (b : Bool) : (obShc T).set (j * 2 + 1) (.bool b) = obShc (T.set j (x.1, b)) := by
  induction T generalizing j with
  | nil => simp at h
  | cons y r ih =>
    cases j with
    | zero => simp at h; subst h; rfl
    | succ j =>
      have := ih j (by simpa using h)
      rw [show (j + 1) * 2 + 1 = (j * 2 + 1) + 1 + 1 by omega]
      simp only [obShc, List.set_cons_succ, this]
theorem obShc_body (T : List (ByteArray × Bool)) (j : Nat) (x : ByteArray × Bool) (h : T[j]? = some x) (s : ByteArray) : (obShc T).set (j * 2) (.string s) = obShc (T.set j (s, x.2)) := by
  induction T generalizing j with
  | nil => simp at h
  | cons y r ih =>
    cases j with
    | zero => simp at h; subst h; rfl
    | succ j =>
      have := ih j (by simpa using h)
      rw [show (j + 1) * 2 = (j * 2) + 1 + 1 by omega]
      simp only [obShc, List.set_cons_succ, this]
abbrev ObS.v (x : ObS) (h : Nat) : Value := .slice (some ⟨h, 0, none⟩) x.T.length x.T.length
def obSf : List Nat → List ObS → List Value
  | h :: hs, x :: r => x.v h :: .int .i64 (x.m : Nat) :: .int .i64 (x.z : Nat) :: obSf hs r
  | _, _ => []
theorem obSf_app (hs gs : List Nat) (S R : List ObS) (e : hs.length = S.length) : obSf (hs ++ gs) (S ++ R) = obSf hs S ++ obSf gs R := by
  induction S generalizing hs with
  | nil =>
    have : hs = [] := List.eq_nil_of_length_eq_zero e
    subst this; rfl
  | cons x r ih =>
    cases hs with
    | nil => simp at e
    | cons h hs => simp only [List.cons_append, obSf, ih hs (by simpa using e)]
theorem obSf_drop (hs : List Nat) (S : List ObS) (k : Nat) (e : hs.length = S.length) : obSf (hs.drop k) (S.drop k) = (obSf hs S).drop (k * 3) := by
  induction k generalizing hs S with
  | zero => simp
  | succ k ih =>
    cases S with
    | nil =>
      have : hs = [] := List.eq_nil_of_length_eq_zero e
      subst this; simp [obSf]
    | cons x r =>
      cases hs with
      | nil => simp at e
      | cons h hs =>
        rw [List.drop_succ_cons, List.drop_succ_cons, ih hs r (by simpa using e), show (k + 1) * 3 = k * 3 + 1 + 1 + 1 by omega]
        rfl
theorem obSf_at (hs : List Nat) (S : List ObS) (i h : Nat) (x : ObS) (h1 : hs[i]? = some h) (h2 : S[i]? = some x) : (obSf hs S)[i * 3]? = some (x.v h) ∧ (obSf hs S)[i * 3 + 1]? = some (.int .i64 (x.m : Nat)) ∧ (obSf hs S)[i * 3 + 2]? = some (.int .i64 (x.z : Nat)) := by
  induction S generalizing hs i with
  | nil => simp at h2
  | cons y r ih =>
    cases hs with
    | nil => simp at h1
    | cons g hs =>
      cases i with
      | zero => simp at h1 h2; subst h1 h2; exact ⟨rfl, rfl, rfl⟩
      | succ i =>
        obtain ⟨a, b, c⟩ := ih hs i (by simpa using h1) (by simpa using h2)
        rw [show (i + 1) * 3 = i * 3 + 1 + 1 + 1 by omega]
        exact ⟨a, b, c⟩
theorem obSf_one (hs : List Nat) (S : List ObS) : ∀ u ∈ obSf hs S, u.oneCell' = true := by
  induction S generalizing hs with
  | nil => intro u hu; cases hs <;> simp [obSf] at hu
  | cons x r ih =>
    cases hs with
    | nil => intro u hu; simp [obSf] at hu
    | cons h hs =>
      intro u hu
      simp only [obSf, List.mem_cons] at hu
      rcases hu with rfl | rfl | rfl | hu
      · rfl
      · rfl
      · rfl
      · exact ih hs u hu
/-- of a sheaf only how its shards wait, or their bytes, is another thing: the row's cells are the same. -/
theorem obSf_set (hs : List Nat) (S : List ObS) (i : Nat) (x y : ObS) (h : S[i]? = some x) (e1 : y.T.length = x.T.length) (e2 : y.m = x.m) (e3 : y.z = x.z) : obSf hs (S.set i y) = obSf hs S := by
  induction S generalizing hs i with
  | nil => simp at h
  | cons a r ih =>
    cases hs with
    | nil => cases i <;> rfl
    | cons g hs =>
      cases i with
      | zero => simp at h; subst h; simp only [List.set_cons_zero, obSf, ObS.v, e1, e2, e3]
      | succ i => simp only [List.set_cons_succ, obSf, ih hs i (by simpa using h)]
structure ObG (x : ObS) : Prop where
  some_ : 1 ≤ x.T.length
  few : x.T.length ≤ 255
  data : x.m ≤ x.T.length
  m32 : x.m ≤ 32
  size : x.z ≤ 32768
  text : ∀ t ∈ x.T, t.1.size ≤ 1024
structure ObM where
  c : Cf
  st : Int
  s : ByteArray
  nx : Int
  L : List Bl
  a : Int
  S : List ObS
  U : List (Int × Int)
  cl : Bool
  fin : Bool
/-- where it lies. -/
structure ObY where
  o : Nat
  B : Nat
  q : Nat
  g : Option Nat
  f : Nat
  rL : Option Nat
  vL : Value
  ed : Nat
  rs : Option Nat
  vs : Value
  hs : List Nat
  ru : Option Nat
  vu : Value
/-- its own blocks. -/
def ObY.own (Y : ObY) (i : Nat) : Prop := i = Y.o ∨ i = Y.q ∨ Y.g = some i ∨ FlOwn Y.f Y.rL i ∨ i = Y.ed ∨ Y.rs = some i ∨ i ∈ Y.hs ∨ Y.ru = some i ∨ i = Y.B
abbrev obCells (M : ObM) (Y : ObY) : List Value := [.int .i64 M.c.k, .int .i64 M.c.r, .int .i64 M.c.s, .int .i64 M.c.w, .int .i64 M.c.b, .int .i64 M.c.q, .int .i64 M.c.u, .int .i64 M.c.t, .int .i64 M.c.o, .int .i64 M.c.x, .int .i64 M.c.i, .int .i64 M.st, .pointer (some ⟨Y.B, 0, none⟩), .pointer (some ⟨Y.f, 0, none⟩), .pointer (some ⟨Y.ed, 0, none⟩), Y.vs, Y.vu, .bool M.cl, .bool M.fin]
/-- what lies in memory, but the struct itself. -/
structure ObP (w : World) (Y : ObY) (M : ObM) : Prop where
  bk : Bk w Y.B Y.q (M.c.k * M.c.s).toNat M.c.b.toNat Y.g M.s
  fl : Fl w Y.f M.c.w M.nx Y.rL Y.vL M.L
  ce : Ce w Y.ed M.a
  sh : Qu w Y.rs 55 3 Y.vs M.S.length (obSf Y.hs M.S)
  hl : Y.hs.length = M.S.length
  nd : Y.hs.Nodup
  rows : ∀ (i h : Nat) (x : ObS), Y.hs[i]? = some h → M.S[i]? = some x → At w h 61 (obShc x.T)
  un : Qu w Y.ru 52 2 Y.vu M.U.length (sncells M.U)
structure Obm (w : World) (Y : ObY) (M : ObM) : Prop where
  own : At w Y.o 50 (obCells M Y)
  p : ObP w Y M
/-- what always holds of it. -/
structure ObI (M : ObM) : Prop where
  ok : M.c.ok = true
  same : M.S.length = M.L.length
  good : ∀ x ∈ M.S, ObG x
  fit : ∀ (i : Nat) (x : ObS) (y : Bl), M.S[i]? = some x → M.L[i]? = some y → (x.T.length : Int) = y.n
structure Ob (w : World) (Y : ObY) (M : ObM) : Prop where
  m : Obm w Y M
  i : ObI M
section
variable {w w' : World} {Y : ObY} {M : ObM} {c : Nat → Prop}
theorem ObP.hs_ty (h : ObP w Y M) {i : Nat} (hi : i ∈ Y.hs) : ObTy w i 61 := by
  obtain ⟨j, hj, e⟩ := List.mem_iff_getElem.1 hi
  have hj' : j < M.S.length := by rw [← h.hl]; exact hj
  exact (h.rows j i M.S[j] (by rw [List.getElem?_eq_getElem hj, e]) (List.getElem?_eq_getElem hj')).obty
/-- what a step leaves that turns blocks of some types alone. -/
theorem ObP.keep (h : ObP w Y M) (t : Tn c w w') (ts : List TypeId) (hc : ∀ i τ, c i → ObTy w i τ → τ ∈ ts) :
    (127 ∉ ts → 130 ∉ ts → 5 ∉ ts → Bk w' Y.B Y.q (M.c.k * M.c.s).toNat M.c.b.toNat Y.g M.s) ∧
    (87 ∉ ts → 108 ∉ ts → Fl w' Y.f M.c.w M.nx Y.rL Y.vL M.L) ∧
    (111 ∉ ts → Ce w' Y.ed M.a) ∧
    (55 ∉ ts → Qu w' Y.rs 55 3 Y.vs M.S.length (obSf Y.hs M.S)) ∧
    (61 ∉ ts → ∀ (i h : Nat) (x : ObS), Y.hs[i]? = some h → M.S[i]? = some x → At w' h 61 (obShc x.T)) ∧
    (52 ∉ ts → Qu w' Y.ru 52 2 Y.vu M.U.length (sncells M.U)) := by
  have no : ∀ {i : Nat} {τ : TypeId}, ObTy w i τ → τ ∉ ts → ¬ c i := fun k n hci => n (hc _ _ hci k)
  refine ⟨fun n1 n2 n3 => h.bk.tn t (no h.bk.1.obty n1) (no h.bk.2.1.obty.1 n2) (fun x hx => no (h.bk.2.1.obty.2 x hx) n3), fun n1 n2 => h.fl.tn t (no h.fl.own.obty n1) (fun x hx => no (h.fl.row.obty hx) n2), fun n => h.ce.tn t (no h.ce.1.obty n), fun n => h.sh.tn t (fun x hx => no (h.sh.obty hx) n), fun n i g x h1 h2 => (h.rows i g x h1 h2).tn t (no (h.rows i g x h1 h2).obty n), fun n => h.un.tn t (fun x hx => no (h.un.obty hx) n)⟩
theorem ObP.tn (h : ObP w Y M) (t : Tn c w w') (hc : ∀ i, Y.own i → ¬ c i) : ObP w' Y M where
  bk := h.bk.tn t (hc _ (by simp [ObY.own])) (hc _ (by simp [ObY.own])) (fun x hx => hc _ (by simp [ObY.own, hx]))
  fl := h.fl.tn t (hc _ (by simp [ObY.own, FlOwn])) (fun x hx => hc _ (by simp [ObY.own, FlOwn, hx]))
  ce := h.ce.tn t (hc _ (by simp [ObY.own]))
  sh := h.sh.tn t (fun x hx => hc _ (by simp [ObY.own, hx]))
  hl := h.hl
  nd := h.nd
  rows := fun i g x h1 h2 => (h.rows i g x h1 h2).tn t (hc _ (by have := List.mem_of_getElem? h1; simp [ObY.own, this]))
  un := h.un.tn t (fun x hx => hc _ (by simp [ObY.own, hx]))
theorem Obm.tn (h : Obm w Y M) (t : Tn c w w') (hc : ∀ i, Y.own i → ¬ c i) : Obm w' Y M := ⟨h.own.tn t (hc _ (.inl rfl)), h.p.tn t hc⟩
theorem Obm.below (h : Obm w Y M) (t : Below w.heap.size w w') : Obm w' Y M := h.tn (tn_below Nil t) fun _ _ e => e
theorem Obm.drewN (h : Obm w Y M) (q : Nat) : Obm (w.drewN q) Y M := h.tn ((Tn.refl Nil w).drewN q) fun _ _ e => e
theorem Ob.tn (h : Ob w Y M) (t : Tn c w w') (hc : ∀ i, Y.own i → ¬ c i) : Ob w' Y M := ⟨h.m.tn t hc, h.i⟩
theorem Ob.below (h : Ob w Y M) (t : Below w.heap.size w w') : Ob w' Y M := ⟨h.m.below t, h.i⟩
theorem Ob.drewN (h : Ob w Y M) (q : Nat) : Ob (w.drewN q) Y M := ⟨h.m.drewN q, h.i⟩
/-- its blocks were there. -/
theorem Obm.lt (h : Obm w Y M) {i : Nat} (hi : Y.own i) : i < w.heap.size := by
  rcases hi with rfl | rfl | e | (rfl | e) | rfl | e | e | e | rfl
  · exact h.own.lt
  · exact h.p.bk.2.1.lt
  · exact h.p.bk.2.1.row_lt _ e
  · exact h.p.fl.lt
  · exact h.p.fl.row.lt e
  · exact h.p.ce.1.lt
  · exact h.p.sh.lt e
  · exact (h.p.hs_ty e).lt
  · exact h.p.un.lt e
  · exact h.p.bk.lt
end
/-- A step: of what was there nothing but its own has turned; what is its own then was so, or is new. -/
structure ObT (w w' : World) (Y Y' : ObY) : Prop where
  tn : Tn Y.own w w'
  new : ∀ i, Y'.own i → Y.own i ∨ w.heap.size ≤ i
  o : Y'.o = Y.o
theorem ObT.refl (w : World) (Y : ObY) : ObT w w Y Y := ⟨Tn.refl _ _, fun _ h => .inl h, rfl⟩
theorem ObT.trans {w w1 w2 : World} {Y Y1 Y2 : ObY} (h : ObT w w1 Y Y1) (k : ObT w1 w2 Y1 Y2) : ObT w w2 Y Y2 :=
  ⟨h.tn.trans' k.tn fun i hi e => (h.new i e).resolve_right (by omega), fun i e => by
    rcases k.new i e with e | e
    · exact h.new i e
    · exact .inr (Nat.le_trans h.tn.size e), k.o.trans h.o⟩
theorem obt_below {w w' : World} (Y : ObY) (h : Below w.heap.size w w') : ObT w w' Y Y := ⟨tn_below _ h, fun _ e => .inl e, rfl⟩
theorem ObT.drewN_ {w w1 : World} {Y Y1 : ObY} (h : ObT w w1 Y Y1) (q : Nat) : ObT w (w1.drewN q) Y Y1 := ⟨h.tn.drewN q, h.new, h.o⟩
/-- seen from where all of it was made. -/
theorem ObT.from_ {w0 w w' : World} {Y Y' : ObY} (h : ObT w w' Y Y') (k : Below w0.heap.size w0 w) (hY : ∀ i, Y.own i → w0.heap.size ≤ i) : Below w0.heap.size w0 w' ∧ ∀ i, Y'.own i → w0.heap.size ≤ i :=
  ⟨h.tn.below k k.size fun i hi e => by have := hY i e; omega, fun i e => by
    rcases h.new i e with e | e
    · exact hY i e
    · exact Nat.le_trans k.size e⟩
end Go.Proofs.YtodokgkchmpmnaaGreat

/- Plain lemmas on the steps of what a stream sends. No condition beyond those that each lemma names. -/
namespace Go.Proofs.YtodokgkchmpmnaaGreat
open Go.ChangeShapes Go.WideShapes Go.ChangeAt Go.RowKit

section
variable {w w' : World} {Y : ObY} {M : ObM}
/-- a cell of the struct is another one. -/
theorem ObP.set_ (h : ObP w Y M) {xs : List Value} (a : At w Y.o 50 xs) (j : Nat) (v : Value) : ObP (w.setCell ⟨Y.o, j, none⟩ v) Y M := by
  obtain ⟨k1, k2, k3, k4, k5, k6⟩ := h.keep ((Tn.refl (fun i => i = Y.o) w).set ⟨Y.o, j, none⟩ v (fun _ => rfl)) [50] (by rintro i τ rfl k; rw [a.obty.one k]; simp)
  exact ⟨k1 (by decide) (by decide) (by decide), k2 (by decide) (by decide), k3 (by decide), k4 (by decide), h.hl, h.nd, k5 (by decide), k6 (by decide)⟩
theorem tn_o (w : World) (Y : ObY) (j : Nat) (v : Value) : Tn Y.own w (w.setCell ⟨Y.o, j, none⟩ v) := (Tn.refl _ w).set _ _ (fun _ => .inl rfl)
theorem Obm.cl_ (h : Obm w Y M) (x : Bool) : Obm (w.setCell ⟨Y.o, 17, none⟩ (.bool x)) Y { M with cl := x } ∧ ObT w (w.setCell ⟨Y.o, 17, none⟩ (.bool x)) Y Y := by
  have p := h.p.set_ h.own 17 (.bool x)
  exact ⟨⟨h.own.set_ 17 _, ⟨p.bk, p.fl, p.ce, p.sh, p.hl, p.nd, p.rows, p.un⟩⟩, tn_o w Y 17 _, fun _ e => .inl e, rfl⟩
theorem Obm.fin_ (h : Obm w Y M) (x : Bool) : Obm (w.setCell ⟨Y.o, 18, none⟩ (.bool x)) Y { M with fin := x } ∧ ObT w (w.setCell ⟨Y.o, 18, none⟩ (.bool x)) Y Y := by
  have p := h.p.set_ h.own 18 (.bool x)
  exact ⟨⟨h.own.set_ 18 _, ⟨p.bk, p.fl, p.ce, p.sh, p.hl, p.nd, p.rows, p.un⟩⟩, tn_o w Y 18 _, fun _ e => .inl e, rfl⟩
/-- the bytes that wait to be cut turn. -/
theorem Obm.ring_ (h : Obm w Y M) {g' : Option Nat} {s' : ByteArray} (hb : Bk w' Y.B Y.q (M.c.k * M.c.s).toNat M.c.b.toNat g' s') (ht : Turns w w' Y.q Y.g) (hg : Grows w Y.g g') :
    Obm w' { Y with g := g' } { M with s := s' } ∧ ObT w w' Y { Y with g := g' } := by
  have t : Tn (fun i => i = Y.q ∨ Y.g = some i) w w' := ⟨ht.os, ht.tape, ht.output, ht.size, fun i hi n => ht.block i hi (fun e => n (.inl e)) (fun e => n (.inr e.symm))⟩
  obtain ⟨k1, k2, k3, k4, k5, k6⟩ := h.p.keep t [130, 5] (by
    rintro i τ (rfl | e) k
    · rw [h.p.bk.2.1.obty.1.one k]; simp
    · rw [(h.p.bk.2.1.obty.2 i e).one k]; simp)
  refine ⟨⟨h.own.tn t ?_, ⟨hb, k2 (by decide) (by decide), k3 (by decide), k4 (by decide), h.p.hl, h.p.nd, k5 (by decide), k6 (by decide)⟩⟩, ⟨t.mono fun i _ e => ?_, fun i e => ?_, rfl⟩⟩
  · rintro (e | e)
    · exact h.own.obty.ne h.p.bk.2.1.obty.1 (by decide) e
    · exact h.own.obty.ne (h.p.bk.2.1.obty.2 _ e) (by decide) rfl
  · rcases e with e | e
    · exact .inr (.inl e)
    · exact .inr (.inr (.inl e))
  · rcases e with e | e | e | e
    · exact .inl (.inl e)
    · exact .inl (.inr (.inl e))
    · rcases hg i e with q | q
      · exact .inl (.inr (.inr (.inl q)))
      · exact .inr q
    · exact .inl (.inr (.inr (.inr e)))
/-- what flies turns. -/
theorem Obm.flight_ (h : Obm w Y M) {nx' : Int} {rL' : Option Nat} {vL' : Value} {L' : List Bl} (hf : Fl w' Y.f M.c.w nx' rL' vL' L') (hr : rL' = Y.rL ∨ ∃ g, rL' = some g ∧ w.heap.size ≤ g) (t : Tn (FlOwn Y.f Y.rL) w w') :
    Obm w' { Y with rL := rL', vL := vL' } { M with nx := nx', L := L' } ∧ ObT w w' Y { Y with rL := rL', vL := vL' } := by
  obtain ⟨k1, k2, k3, k4, k5, k6⟩ := h.p.keep t [87, 108] (by
    rintro i τ (rfl | e) k
    · rw [h.p.fl.own.obty.one k]; simp
    · rw [(h.p.fl.row.obty e).one k]; simp)
  refine ⟨⟨h.own.tn t ?_, ⟨k1 (by decide) (by decide) (by decide), hf, k3 (by decide), k4 (by decide), h.p.hl, h.p.nd, k5 (by decide), k6 (by decide)⟩⟩, ⟨t.mono fun i _ e => .inr (.inr (.inr (.inl e))), fun i e => ?_, rfl⟩⟩
  · rintro (e | e)
    · exact h.own.obty.ne h.p.fl.own.obty (by decide) e
    · exact h.own.obty.ne (h.p.fl.row.obty e) (by decide) rfl
  · rcases e with e | e | e | (e | e) | e
    · exact .inl (.inl e)
    · exact .inl (.inr (.inl e))
    · exact .inl (.inr (.inr (.inl e)))
    · exact .inl (.inr (.inr (.inr (.inl (.inl e)))))
    · have e : rL' = some i := e
      rcases hr with q | ⟨g, q, hg⟩
      · exact .inl (.inr (.inr (.inr (.inl (.inr (q ▸ e))))))
      · rw [e] at q; injection q with q; subst q; exact .inr hg
    · exact .inl (.inr (.inr (.inr (.inr e))))
/-- the edge turns. -/
theorem Obm.edge_ (h : Obm w Y M) {a' : Int} (hc : Ce w' Y.ed a') (hg : w.grownBy w' (some Y.ed)) : Obm w' Y { M with a := a' } ∧ ObT w w' Y Y := by
  have t : Tn (fun i => i = Y.ed) w w' := tn_grown hg (fun g e => by injection e with e; exact e.symm)
  obtain ⟨k1, k2, k3, k4, k5, k6⟩ := h.p.keep t [111] (by rintro i τ rfl k; rw [h.p.ce.1.obty.one k]; simp)
  exact ⟨⟨h.own.tn t (h.own.obty.ne h.p.ce.1.obty (by decide)), ⟨k1 (by decide) (by decide) (by decide), k2 (by decide) (by decide), hc, k4 (by decide), h.p.hl, h.p.nd, k5 (by decide), k6 (by decide)⟩⟩, ⟨t.mono fun i _ e => .inr (.inr (.inr (.inr (.inl e)))), fun _ e => .inl e, rfl⟩⟩
/-- one sheaf more. -/
theorem Obm.sheaf_ (h : Obm w Y M) {x : ObS} {g : Nat} {rs' : Option Nat} {vs' : Value} {w2 : World} (hg : At w' g 61 (obShc x.T)) (hn : w.heap.size ≤ g) (hb : Below w.heap.size w w')
    (hq : Qu w2 rs' 55 3 vs' (M.S.length + 1) (obSf Y.hs M.S ++ [x.v g, .int .i64 (x.m : Nat), .int .i64 (x.z : Nat)])) (hr : rs' = Y.rs ∨ ∃ i, rs' = some i ∧ w.heap.size ≤ i) (t : Tn (fun i => Y.rs = some i) w' w2) :
    At w2 Y.o 50 (obCells M Y) ∧ Obm (w2.setCell ⟨Y.o, 15, none⟩ vs') { Y with rs := rs', vs := vs', hs := Y.hs ++ [g] } { M with S := M.S ++ [x] } ∧ ObT w (w2.setCell ⟨Y.o, 15, none⟩ vs') Y { Y with rs := rs', vs := vs', hs := Y.hs ++ [g] } := by
  have h1 := h.below hb
  obtain ⟨k1, k2, k3, k4, k5, k6⟩ := h1.p.keep t [55] (by rintro i τ e k; rw [(h1.p.sh.obty e).one k]; simp)
  have a2 := h1.own.tn t (fun e => h1.own.obty.ne (h1.p.sh.obty e) (by decide) rfl)
  have hgT : ObTy w2 g 61 := (hg.tn t (fun e => hg.obty.ne (h1.p.sh.obty e) (by decide) rfl)).obty
  have g2 := hg.tn t (fun e => hg.obty.ne (h1.p.sh.obty e) (by decide) rfl)
  have hgo : g ∉ Y.hs := fun e => by have := (h.p.hs_ty e).lt; omega
  have hhl : (Y.hs ++ [g]).length = (M.S ++ [x]).length := by rw [List.length_append, List.length_append, h.p.hl]; rfl
  have P : ObP w2 { Y with rs := rs', vs := vs', hs := Y.hs ++ [g] } { M with S := M.S ++ [x] } := by
    refine ⟨k1 (by decide) (by decide) (by decide), k2 (by decide) (by decide), k3 (by decide), ?_, hhl, ?_, ?_, k6 (by decide)⟩
    · show Qu _ _ _ _ _ (M.S ++ [x]).length (obSf (Y.hs ++ [g]) (M.S ++ [x]))
      rw [obSf_app _ _ _ _ h.p.hl, List.length_append]
      exact hq
    · show (Y.hs ++ [g]).Nodup
      rw [List.nodup_append]
      exact ⟨h.p.nd, by simp, fun a ha b hb e => by simp at hb; subst hb; subst e; exact hgo ha⟩
    · intro i k y h1' h2'
      have h1' : (Y.hs ++ [g])[i]? = some k := h1'
      have h2' : (M.S ++ [x])[i]? = some y := h2'
      by_cases e : i < Y.hs.length
      · rw [List.getElem?_append_left e] at h1'
        rw [List.getElem?_append_left (by rw [← h.p.hl]; exact e)] at h2'
        exact k5 (by decide) i k y h1' h2'
      · have hi : i = Y.hs.length := by
          have := (List.getElem?_eq_some_iff.1 h1').1
          rw [List.length_append] at this
          simp at this
          omega
        subst hi
        rw [List.getElem?_append_right (Nat.le_refl _)] at h1'
        rw [List.getElem?_append_right (by rw [h.p.hl]; exact Nat.le_refl _)] at h2'
        simp [h.p.hl] at h1' h2'
        subst h1'; subst h2'
        exact g2
  have tt : Tn Y.own w w2 := (tn_below Y.own hb).trans (t.mono fun i _ e => .inr (.inr (.inr (.inr (.inr (.inl e))))))
  refine ⟨a2, ⟨a2.set_ 15 _, P.set_ (Y := { Y with rs := rs', vs := vs', hs := Y.hs ++ [g] }) a2 15 _⟩, ⟨tt.trans (tn_o w2 Y 15 _), fun i e => ?_, rfl⟩⟩
  rcases e with e | e | e | e | e | e | e | e
  · exact .inl (.inl e)
  · exact .inl (.inr (.inl e))
  · exact .inl (.inr (.inr (.inl e)))
  · exact .inl (.inr (.inr (.inr (.inl e))))
  · exact .inl (.inr (.inr (.inr (.inr (.inl e)))))
  · have e : rs' = some i := e
    rcases hr with q | ⟨j, q, hj⟩
    · exact .inl (.inr (.inr (.inr (.inr (.inr (.inl (q ▸ e)))))))
    · rw [e] at q; injection q with q; subst q; exact .inr hj
  · have e : i ∈ Y.hs ++ [g] := e
    rcases List.mem_append.1 e with e | e
    · exact .inl (.inr (.inr (.inr (.inr (.inr (.inr (.inl e)))))))
    · simp at e; subst e; exact .inr hn
  · exact .inl (.inr (.inr (.inr (.inr (.inr (.inr (.inr e)))))))
/-- the first sheaves are gone. -/
theorem Obm.drop_ (h : Obm w Y M) {k : Nat} {vs' : Value} (hq : Qu w' Y.rs 55 3 vs' (M.S.length - k) ((obSf Y.hs M.S).drop (k * 3))) (t : Tn (fun i => Y.rs = some i) w w') :
    At w' Y.o 50 (obCells M Y) ∧ Obm (w'.setCell ⟨Y.o, 15, none⟩ vs') { Y with vs := vs', hs := Y.hs.drop k } { M with S := M.S.drop k } ∧ ObT w (w'.setCell ⟨Y.o, 15, none⟩ vs') Y { Y with vs := vs', hs := Y.hs.drop k } := by
  obtain ⟨k1, k2, k3, k4, k5, k6⟩ := h.p.keep t [55] (by rintro i τ e k; rw [(h.p.sh.obty e).one k]; simp)
  have a2 := h.own.tn t (fun e => h.own.obty.ne (h.p.sh.obty e) (by decide) rfl)
  have P : ObP w' { Y with vs := vs', hs := Y.hs.drop k } { M with S := M.S.drop k } := by
    refine ⟨k1 (by decide) (by decide) (by decide), k2 (by decide) (by decide), k3 (by decide), ?_, ?_, ?_, ?_, k6 (by decide)⟩
    · show Qu _ _ _ _ _ (M.S.drop k).length (obSf (Y.hs.drop k) (M.S.drop k))
      rw [obSf_drop _ _ _ h.p.hl, List.length_drop]
      exact hq
    · show (Y.hs.drop k).length = (M.S.drop k).length
      rw [List.length_drop, List.length_drop, h.p.hl]
    · show (Y.hs.drop k).Nodup
      exact h.p.nd.sublist (List.drop_sublist _ _)
    · intro i g y h1' h2'
      have h1' : (Y.hs.drop k)[i]? = some g := h1'
      have h2' : (M.S.drop k)[i]? = some y := h2'
      rw [List.getElem?_drop] at h1' h2'
      exact k5 (by decide) _ g y h1' h2'
  refine ⟨a2, ⟨a2.set_ 15 _, P.set_ (Y := { Y with vs := vs', hs := Y.hs.drop k }) a2 15 _⟩, ⟨(t.mono fun i _ e => .inr (.inr (.inr (.inr (.inr (.inl e)))))).trans (tn_o w' Y 15 _), fun i e => .inl ?_, rfl⟩⟩
  rcases e with e | e | e | e | e | e | e | e
  · exact .inl e
  · exact .inr (.inl e)
  · exact .inr (.inr (.inl e))
  · exact .inr (.inr (.inr (.inl e)))
  · exact .inr (.inr (.inr (.inr (.inl e))))
  · exact .inr (.inr (.inr (.inr (.inr (.inl e)))))
  · exact .inr (.inr (.inr (.inr (.inr (.inr (.inl (List.mem_of_mem_drop e)))))))
  · exact .inr (.inr (.inr (.inr (.inr (.inr (.inr e))))))
/-- what waits to be sent turns. -/
theorem Obm.unsent_ (h : Obm w Y M) {ru' : Option Nat} {vu' : Value} {U' : List (Int × Int)} (hq : Qu w' ru' 52 2 vu' U'.length (sncells U')) (hr : ru' = Y.ru ∨ ∃ i, ru' = some i ∧ w.heap.size ≤ i) (t : Tn (fun i => Y.ru = some i) w w') :
    At w' Y.o 50 (obCells M Y) ∧ Obm (w'.setCell ⟨Y.o, 16, none⟩ vu') { Y with ru := ru', vu := vu' } { M with U := U' } ∧ ObT w (w'.setCell ⟨Y.o, 16, none⟩ vu') Y { Y with ru := ru', vu := vu' } := by
  obtain ⟨k1, k2, k3, k4, k5, k6⟩ := h.p.keep t [52] (by rintro i τ e k; rw [(h.p.un.obty e).one k]; simp)
  have a2 := h.own.tn t (fun e => h.own.obty.ne (h.p.un.obty e) (by decide) rfl)
  have P : ObP w' { Y with ru := ru', vu := vu' } { M with U := U' } := ⟨k1 (by decide) (by decide) (by decide), k2 (by decide) (by decide), k3 (by decide), k4 (by decide), h.p.hl, h.p.nd, k5 (by decide), hq⟩
  refine ⟨a2, ⟨a2.set_ 16 _, P.set_ (Y := { Y with ru := ru', vu := vu' }) a2 16 _⟩, ⟨(t.mono fun i _ e => .inr (.inr (.inr (.inr (.inr (.inr (.inr (.inl e)))))))).trans (tn_o w' Y 16 _), fun i e => ?_, rfl⟩⟩
  rcases e with e | e | e | e | e | e | e | e | e
  · exact .inl (.inl e)
  · exact .inl (.inr (.inl e))
  · exact .inl (.inr (.inr (.inl e)))
  · exact .inl (.inr (.inr (.inr (.inl e))))
  · exact .inl (.inr (.inr (.inr (.inr (.inl e)))))
  · exact .inl (.inr (.inr (.inr (.inr (.inr (.inl e))))))
  · exact .inl (.inr (.inr (.inr (.inr (.inr (.inr (.inl e)))))))
  · have e : ru' = some i := e
    rcases hr with q | ⟨j, q, hj⟩
    · exact .inl (.inr (.inr (.inr (.inr (.inr (.inr (.inr (.inl (q ▸ e)))))))))
    · rw [e] at q; injection q with q; subst q; exact .inr hj
  · exact .inl (.inr (.inr (.inr (.inr (.inr (.inr (.inr (.inr e))))))))
/-- one cell of a shard is another one. -/
theorem Obm.shard_ (h : Obm w Y M) {i g k : Nat} {x : ObS} {T' : List (ByteArray × Bool)} {v : Value} (h1 : Y.hs[i]? = some g) (h2 : M.S[i]? = some x) (e : (obShc x.T).set k v = obShc T') (hl : T'.length = x.T.length) :
    Obm (w.setCell ⟨g, k, none⟩ v) Y { M with S := M.S.set i { x with T := T' } } ∧ ObT w (w.setCell ⟨g, k, none⟩ v) Y Y := by
  have t : Tn (fun i => i = g) w (w.setCell ⟨g, k, none⟩ v) := (Tn.refl (fun i => i = g) w).set _ _ (fun _ => rfl)
  have hA := h.p.rows i g x h1 h2
  obtain ⟨k1, k2, k3, k4, k5, k6⟩ := h.p.keep t [61] (by rintro j τ rfl k; rw [hA.obty.one k]; simp)
  refine ⟨⟨h.own.tn t (h.own.obty.ne hA.obty (by decide)), ⟨k1 (by decide) (by decide) (by decide), k2 (by decide) (by decide), k3 (by decide), ?_, ?_, h.p.nd, ?_, k6 (by decide)⟩⟩, ⟨t.mono fun j _ q => ?_, fun _ q => .inl q, rfl⟩⟩
  · show Qu _ _ _ _ _ (M.S.set i _).length (obSf Y.hs (M.S.set i _))
    rw [obSf_set _ _ _ x { x with T := T' } h2 hl rfl rfl, List.length_set]
    exact k4 (by decide)
  · show Y.hs.length = (M.S.set i _).length
    rw [List.length_set]; exact h.p.hl
  · intro j q y q1 q2
    have q2 : (M.S.set i { x with T := T' })[j]? = some y := q2
    by_cases e' : i = j
    · subst e'
      rw [h1] at q1; injection q1 with q1; subst q1
      rw [List.getElem?_set_self (List.getElem?_eq_some_iff.1 h2).1] at q2
      injection q2 with q2; subst q2
      rw [← e]
      exact hA.set_ k v
    · rw [List.getElem?_set_ne e'] at q2
      refine (h.p.rows j q y q1 q2).tn t fun eq => e' ?_
      have hj := (List.getElem?_eq_some_iff.1 q1).1
      have hi := (List.getElem?_eq_some_iff.1 h1).1
      rw [eq] at q1
      exact (List.getElem?_inj hi h.p.nd).1 (h1.trans q1.symm)
  · rw [show j = g from q]
    exact .inr (.inr (.inr (.inr (.inr (.inr (.inl (List.mem_of_getElem? h1)))))))
end
end Go.Proofs.YtodokgkchmpmnaaGreat

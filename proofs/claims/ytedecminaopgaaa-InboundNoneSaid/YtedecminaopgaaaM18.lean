/- Proved: lemmas of one statement's proof, merged by program: what each part proves stands ahead of it. Conditions: those that the lemmas name. -/
import Derived.Test.YtedecminaopgaaaM3
import Derived.Test.YtedecminaopgaaaM4
import Derived.Test.YtedecminaopgaaaM14
import Derived.Test.YtedecminaopgaaaM6

/- Plain lemmas on blocks of memory by their types. No condition beyond those that each lemma names. -/
namespace Go.Proofs.Ytedecminaopgaaa
open Go.ChangeShapes Go.WideShapes Go.ChangeAt Go.RowKit

/-! ### blocks by their types -/
/-- Block i holds cells of type t. -/
def ObTy (w : World) (i : Nat) (t : TypeId) : Prop := ∃ c, w.heap[i]? = some (.cells c t (0, 0))
theorem ObTy.ne {w : World} {i j : Nat} {t t' : TypeId} (h : ObTy w i t) (k : ObTy w j t') (n : t ≠ t') : i ≠ j := by
  rintro rfl
  obtain ⟨c, hc⟩ := h
  obtain ⟨d, hd⟩ := k
  rw [hc] at hd
  injection hd with hd
  injection hd with _ hd
  exact n hd
theorem At.obty {w : World} {b : Nat} {t : TypeId} {xs : List Value} (h : At w b t xs) : ObTy w b t := ⟨_, h⟩
theorem Qu.obty {w : World} {r : Option Nat} {e : TypeId} {k n : Nat} {v : Value} {xs : List Value} (h : Qu w r e k v n xs) {g : Nat} (hg : r = some g) : ObTy w g e := by
  rcases h.2 with ⟨_, _, e'⟩ | ⟨g', o, cap, cur, e', _, hb, _⟩
  · rw [hg] at e'; cases e'
  · rw [hg] at e'; injection e' with e'; subst e'; exact ⟨_, hb⟩
theorem Rg.obty {w : World} {b r : Nat} {g : Option Nat} {s : ByteArray} (h : Rg w b r g s) : ObTy w b 96 ∧ ∀ x, g = some x → ObTy w x 5 := by
  obtain ⟨n, f, ha, _, _, _, _, l, _, hr, _⟩ := h
  refine ⟨ha.obty, fun x hx => ?_⟩
  rcases hr with ⟨q, _⟩ | ⟨y, hy, _, _, ho⟩
  · rw [q] at hx; cases hx
  · rw [hy] at hx; injection hx with hx; subst hx
    obtain ⟨_, _, cur, hc, _⟩ := ho
    exact ⟨_, hc⟩
theorem Rg.tn {w w' : World} {b r : Nat} {g : Option Nat} {s : ByteArray} {c : Nat → Prop} (h : Rg w b r g s) (t : Tn c w w') (hb : ¬ c b) (hg : ∀ x, g = some x → ¬ c x) : Rg w' b r g s := by
  obtain ⟨n, f, ha, h1, h2, h3, h4, l, hl, hr, hs⟩ := h
  exact ⟨n, f, ha.tn t hb, h1, h2, h3, h4, l, hl, hr.block (fun x hx _ hlt => t.block x hlt (hg x hx)), hs⟩
end Go.Proofs.Ytedecminaopgaaa

/- Plain lemmas on what a stream takes, in memory. No condition beyond those that each lemma names. -/
namespace Go.Proofs.Ytedecminaopgaaa
open Go.ChangeShapes Go.WideShapes Go.ChangeAt Go.RowKit

/-! ### what a stream takes -/
/-- how many bytes these bodies have. -/
def szs : List ByteArray → Nat
  | [] => 0
  | x :: r => x.size + szs r
theorem szs_app (l r : List ByteArray) : szs (l ++ r) = szs l + szs r := by
  induction l with
  | nil => simp [szs]
  | cons x l ih => show x.size + szs (l ++ r) = x.size + szs l + szs r; rw [ih]; omega
theorem szs_none (n : Nat) : szs (List.replicate n S0) = 0 := by
  induction n with
  | zero => rfl
  | succ n ih => rw [List.replicate_succ]; show S0.size + _ = 0; rw [ih]; rfl
theorem szs_set (l : List ByteArray) (p : Nat) (s : ByteArray) (h : p < l.length) (h1 : emB (st_ l p) = true) : szs (l.set p s) = szs l + s.size := by
  induction l generalizing p with
  | nil => exact absurd h (by simp)
  | cons x l ih =>
    cases p with
    | zero =>
      have h1' : emB x = true := h1
      have : x.size = 0 := by rw [em_is.1 h1']; rfl
      show s.size + szs l = x.size + szs l + s.size
      omega
    | succ p =>
      have := ih p (by simpa using h) h1
      show x.size + szs (l.set p s) = x.size + szs l + s.size
      omega
theorem szs_put (L : List ByteArray) (p : Nat) (s : ByteArray) (h1 : emB (st_ L p) = true) : szs (putR L p s) = szs L + s.size := by
  unfold putR
  rw [szs_set _ _ _ (by rw [List.length_append, List.length_replicate]; omega) (by rw [more_st]; exact h1), szs_app, szs_none]
  omega
theorem szs_le (L : List ByteArray) (m : Nat) (h : ∀ x ∈ L, x.size ≤ m) : szs L ≤ L.length * m := by
  induction L with
  | nil => simp [szs]
  | cons x r ih =>
    have h1 := h x (by simp)
    have h2 := ih (fun y hy => h y (by simp [hy]))
    show x.size + szs r ≤ (r.length + 1) * m
    rw [Nat.succ_mul]; omega
theorem mem_put {L : List ByteArray} {p : Nat} {s : ByteArray} {m : Nat} (h : ∀ x ∈ L, x.size ≤ m) (hs : s.size ≤ m) : ∀ x ∈ putR L p s, x.size ≤ m := by
  intro x hx
  unfold putR at hx
  rcases List.mem_or_eq_of_mem_set hx with hx | hx
  · rcases List.mem_append.1 hx with hx | hx
    · exact h x hx
    · rw [(List.mem_replicate.1 hx).2]; exact Nat.zero_le _
  · rw [hx]; exact hs
structure IbM where
  n : Int
  q : Nat
  B : Int
  L : List ByteArray
  s : ByteArray
  k : Nat
  hd : Int
  fi : Int
  hf : Bool
/-- where it lies. -/
structure IbY where
  i : Nat
  o : Nat
  r : Option Nat
  v : Value
  b : Nat
  g : Option Nat
/-- its own blocks. -/
def IbY.own (Y : IbY) (j : Nat) : Prop := j = Y.i ∨ OdOwn Y.o Y.r j ∨ j = Y.b ∨ Y.g = some j
abbrev ibCells (M : IbM) (Y : IbY) : List Value := [.int .i64 M.n, .pointer (some ⟨Y.o, 0, none⟩), .pointer (some ⟨Y.b, 0, none⟩), .int .u32 (wpl M.B M.k), .int .i64 M.hd, .int .u32 M.fi, .bool M.hf]
structure Ibm (w : World) (Y : IbY) (M : IbM) : Prop where
  own : At w Y.i 69 (ibCells M Y)
  od : Od w Y.o M.B M.n Y.r Y.v M.L
  rg : Rg w Y.b M.q Y.g M.s
/-- what always holds of it. -/
structure IbI (M : IbM) : Prop where
  low : M.L.length ≤ M.k
  high : (M.k : Int) ≤ M.n
  held : M.hd = ((M.s.size + szs M.L : Nat) : Int)
  text : ∀ x ∈ M.L, x.size ≤ 1048576
  fin : U32 M.fi
structure Ib (w : World) (Y : IbY) (M : IbM) : Prop where
  m : Ibm w Y M
  i : IbI M
/-- A step: of what was there nothing but its own has turned; what is its own then was so, or is new. -/
structure IbT (w w' : World) (Y Y' : IbY) : Prop where
  tn : Tn Y.own w w'
  new : ∀ i, Y'.own i → Y.own i ∨ w.heap.size ≤ i
  i : Y'.i = Y.i
section
variable {w w' : World} {Y : IbY} {M : IbM} {c : Nat → Prop}
theorem Ibm.tn (h : Ibm w Y M) (t : Tn c w w') (hc : ∀ i, Y.own i → ¬ c i) : Ibm w' Y M :=
  ⟨h.own.tn t (hc _ (.inl rfl)), h.od.tn t (hc _ (.inr (.inl (.inl rfl)))) (fun _ e => hc _ (.inr (.inl (.inr e)))), h.rg.tn t (hc _ (.inr (.inr (.inl rfl)))) (fun _ e => hc _ (.inr (.inr (.inr e))))⟩
theorem Ibm.below (h : Ibm w Y M) (t : Below w.heap.size w w') : Ibm w' Y M := h.tn (tn_below Nil t) fun _ _ e => e
theorem Ibm.drewN (h : Ibm w Y M) (q : Nat) : Ibm (w.drewN q) Y M := h.tn ((Tn.refl Nil w).drewN q) fun _ _ e => e
theorem Ib.below (h : Ib w Y M) (t : Below w.heap.size w w') : Ib w' Y M := ⟨h.m.below t, h.i⟩
theorem Ib.drewN (h : Ib w Y M) (q : Nat) : Ib (w.drewN q) Y M := ⟨h.m.drewN q, h.i⟩
theorem Ib.drew (h : Ib w Y M) : Ib w.drew Y M := h.below (Below.refl _ _).drew
theorem Ibm.u32 (h : Ibm w Y M) : U32 M.B := h.od.u32
theorem Ibm.n64 (h : Ibm w Y M) : 1 ≤ M.n ∧ M.n ≤ 64 := ⟨h.od.low, h.od.high⟩
theorem Ibm.odo (h : Ibm w Y M) : OdO w (some ⟨Y.o, 0, none⟩) M.B Y.v M.L := h.od.odo
theorem Ib.k64 (h : Ib w Y M) : M.k ≤ 64 := by have := h.i.high; have := h.m.n64; omega
end
theorem IbT.refl (w : World) (Y : IbY) : IbT w w Y Y := ⟨Tn.refl _ _, fun _ h => .inl h, rfl⟩
theorem IbT.trans {w w1 w2 : World} {Y Y1 Y2 : IbY} (h : IbT w w1 Y Y1) (k : IbT w1 w2 Y1 Y2) : IbT w w2 Y Y2 :=
  ⟨h.tn.trans' k.tn fun i hi e => (h.new i e).resolve_right (by omega), fun i e => by
    rcases k.new i e with e | e
    · exact h.new i e
    · exact .inr (Nat.le_trans h.tn.size e), k.i.trans h.i⟩
theorem ibt_below {w w' : World} (Y : IbY) (h : Below w.heap.size w w') : IbT w w' Y Y := ⟨tn_below _ h, fun _ e => .inl e, rfl⟩
theorem IbT.below_ {w w1 w2 : World} {Y Y1 : IbY} (h : IbT w w1 Y Y1) (k : Below w1.heap.size w1 w2) : IbT w w2 Y Y1 := h.trans (ibt_below Y1 k)
theorem IbT.drewN_ {w w1 : World} {Y Y1 : IbY} (h : IbT w w1 Y Y1) (q : Nat) : IbT w (w1.drewN q) Y Y1 := ⟨h.tn.drewN q, h.new, h.i⟩
/-- seen from where all of it was made. -/
theorem IbT.from_ {w0 w w' : World} {Y Y' : IbY} (h : IbT w w' Y Y') (k : Below w0.heap.size w0 w) (hY : ∀ i, Y.own i → w0.heap.size ≤ i) : Below w0.heap.size w0 w' ∧ ∀ i, Y'.own i → w0.heap.size ≤ i :=
  ⟨h.tn.below k k.size fun i hi e => by have := hY i e; omega, fun i e => by
    rcases h.new i e with e | e
    · exact hY i e
    · exact Nat.le_trans k.size e⟩

/-! ### its steps -/
section
variable {w w' : World} {Y : IbY} {M : IbM}
/-- a cell of the struct is another one. -/
theorem Ibm.set_ (h : Ibm w Y M) (j : Nat) (v : Value) : At (w.setCell ⟨Y.i, j, none⟩ v) Y.i 69 ((ibCells M Y).set j v) ∧ Od (w.setCell ⟨Y.i, j, none⟩ v) Y.o M.B M.n Y.r Y.v M.L ∧ Rg (w.setCell ⟨Y.i, j, none⟩ v) Y.b M.q Y.g M.s ∧ IbT w (w.setCell ⟨Y.i, j, none⟩ v) Y Y := by
  have t : Tn (fun i => i = Y.i) w (w.setCell ⟨Y.i, j, none⟩ v) := (Tn.refl (fun i => i = Y.i) w).set ⟨Y.i, j, none⟩ v (fun _ => rfl)
  refine ⟨h.own.set_ j v, h.od.tn t (fun e => h.od.own.obty.ne h.own.obty (by decide) e) (fun _ e q => (h.od.row.obty e).ne h.own.obty (by decide) q), h.rg.tn t (fun e => h.rg.obty.1.ne h.own.obty (by decide) e) (fun _ e q => (h.rg.obty.2 _ e).ne h.own.obty (by decide) q), t.mono fun i _ e => .inl e, fun _ e => .inl e, rfl⟩
theorem Ibm.top_ (h : Ibm w Y M) (k : Nat) : Ibm (w.setCell ⟨Y.i, 3, none⟩ (.int .u32 (wpl M.B k))) Y { M with k := k } ∧ IbT w (w.setCell ⟨Y.i, 3, none⟩ (.int .u32 (wpl M.B k))) Y Y := by
  obtain ⟨a, o, r, t⟩ := h.set_ 3 (.int .u32 (wpl M.B k))
  exact ⟨⟨a, o, r⟩, t⟩
theorem Ibm.held_ (h : Ibm w Y M) (z : Int) : Ibm (w.setCell ⟨Y.i, 4, none⟩ (.int .i64 z)) Y { M with hd := z } ∧ IbT w (w.setCell ⟨Y.i, 4, none⟩ (.int .i64 z)) Y Y := by
  obtain ⟨a, o, r, t⟩ := h.set_ 4 (.int .i64 z)
  exact ⟨⟨a, o, r⟩, t⟩
theorem Ibm.fin_ (h : Ibm w Y M) (z : Int) : Ibm (w.setCell ⟨Y.i, 5, none⟩ (.int .u32 z)) Y { M with fi := z } ∧ IbT w (w.setCell ⟨Y.i, 5, none⟩ (.int .u32 z)) Y Y := by
  obtain ⟨a, o, r, t⟩ := h.set_ 5 (.int .u32 z)
  exact ⟨⟨a, o, r⟩, t⟩
theorem Ibm.has_ (h : Ibm w Y M) (z : Bool) : Ibm (w.setCell ⟨Y.i, 6, none⟩ (.bool z)) Y { M with hf := z } ∧ IbT w (w.setCell ⟨Y.i, 6, none⟩ (.bool z)) Y Y := by
  obtain ⟨a, o, r, t⟩ := h.set_ 6 (.bool z)
  exact ⟨⟨a, o, r⟩, t⟩
/-- what waits to be delivered turns; the number behind the greatest one stays. -/
theorem Ibm.order_ (h : Ibm w Y M) {B' : Int} {r' : Option Nat} {v' : Value} {L' : List ByteArray} {k' : Nat} (hf : Od w' Y.o B' M.n r' v' L') (hr : r' = Y.r ∨ ∃ g, r' = some g ∧ w.heap.size ≤ g) (t : Tn (OdOwn Y.o Y.r) w w') (hk : wpl B' k' = wpl M.B M.k) :
    Ibm w' { Y with r := r', v := v' } { M with B := B', L := L', k := k' } ∧ IbT w w' Y { Y with r := r', v := v' } := by
  refine ⟨⟨?_, hf, h.rg.tn t ?_ ?_⟩, ⟨t.mono fun i _ e => .inr (.inl e), fun i e => ?_, rfl⟩⟩
  · have a := h.own.tn t (by
      rintro (e | e)
      · exact h.own.obty.ne h.od.own.obty (by decide) e
      · exact h.own.obty.ne (h.od.row.obty e) (by decide) rfl)
    show At w' Y.i _ (ibCells { M with B := B', L := L', k := k' } { Y with r := r', v := v' })
    unfold ibCells
    dsimp only
    rw [hk]
    exact a
  · rintro (e | e)
    · exact h.rg.obty.1.ne h.od.own.obty (by decide) e
    · exact h.rg.obty.1.ne (h.od.row.obty e) (by decide) rfl
  · rintro x hx (e | e)
    · exact (h.rg.obty.2 x hx).ne h.od.own.obty (by decide) e
    · exact (h.rg.obty.2 x hx).ne (h.od.row.obty e) (by decide) rfl
  · rcases e with e | (e | e) | e | e
    · exact .inl (.inl e)
    · exact .inl (.inr (.inl (.inl e)))
    · have e : r' = some i := e
      rcases hr with q | ⟨g, q, hg⟩
      · exact .inl (.inr (.inl (.inr (q ▸ e))))
      · rw [e] at q; injection q with q; subst q; exact .inr hg
    · exact .inl (.inr (.inr (.inl e)))
    · exact .inl (.inr (.inr (.inr e)))
/-- what waits to be read turns. -/
theorem Ibm.ring_ (h : Ibm w Y M) {g' : Option Nat} {s' : ByteArray} (hb : Rg w' Y.b M.q g' s') (ht : Turns w w' Y.b Y.g) (hg : Grows w Y.g g') :
    Ibm w' { Y with g := g' } { M with s := s' } ∧ IbT w w' Y { Y with g := g' } := by
  have t : Tn (fun i => i = Y.b ∨ Y.g = some i) w w' := ⟨ht.os, ht.tape, ht.output, ht.size, fun i hi n => ht.block i hi (fun e => n (.inl e)) (fun e => n (.inr e.symm))⟩
  refine ⟨⟨h.own.tn t ?_, h.od.tn t ?_ ?_, hb⟩, ⟨t.mono fun i _ e => .inr (.inr e), fun i e => ?_, rfl⟩⟩
  · rintro (e | e)
    · exact h.own.obty.ne h.rg.obty.1 (by decide) e
    · exact h.own.obty.ne (h.rg.obty.2 _ e) (by decide) rfl
  · rintro (e | e)
    · exact h.od.own.obty.ne h.rg.obty.1 (by decide) e
    · exact h.od.own.obty.ne (h.rg.obty.2 _ e) (by decide) rfl
  · rintro x hx (e | e)
    · exact (h.od.row.obty hx).ne h.rg.obty.1 (by decide) e
    · exact (h.od.row.obty hx).ne (h.rg.obty.2 _ e) (by decide) rfl
  · rcases e with e | e | e | e
    · exact .inl (.inl e)
    · exact .inl (.inr (.inl e))
    · exact .inl (.inr (.inr (.inl e)))
    · rcases hg i e with q | q
      · exact .inl (.inr (.inr (.inr q)))
      · exact .inr q
end
end Go.Proofs.Ytedecminaopgaaa

/- Plain lemmas on what a stream takes: what is seen, comes, ends, is delivered, is read. No condition beyond those that each lemma names. -/
namespace Go.Proofs.Ytedecminaopgaaa
open Go.ChangeShapes Go.WideShapes Go.ChangeAt Go.RowKit

/-- is a number not less than the Fin's? -/
def bfZ (M : IbM) (x : Int) : Bool := M.hf && !decide (0 < ah x M.fi)
/-- a number was seen, or put. -/
def seeM (M : IbM) (x : Int) : IbM := { M with k := max M.k ((ah M.B x).toNat + 1) }
def sawE (M : IbM) (x : Int) : Int := if 0 < ah x M.B then 0 else if inZ x M.B M.n = false then 1 else if bfZ M x = true then 1 else if hasO M.B M.L x = true then 2 else 3
def sawM (M : IbM) (x : Int) : IbM := if sawE M x = 3 then seeM M x else M
section
variable {M : IbM} {x : Int}
theorem sw_old (h : 0 < ah x M.B) : sawE M x = 0 ∧ sawM M x = M := by
  have e : sawE M x = 0 := if_pos h
  exact ⟨e, if_neg (by rw [e]; decide)⟩
theorem sw_past (h : ¬ 0 < ah x M.B) (h2 : inZ x M.B M.n = false) : sawE M x = 1 ∧ sawM M x = M := by
  have e : sawE M x = 1 := by unfold sawE; rw [if_neg h, if_pos h2]
  exact ⟨e, if_neg (by rw [e]; decide)⟩
theorem sw_fin (h : ¬ 0 < ah x M.B) (h2 : inZ x M.B M.n = true) (h3 : bfZ M x = true) : sawE M x = 1 ∧ sawM M x = M := by
  have e : sawE M x = 1 := by unfold sawE; rw [if_neg h, if_neg (by rw [h2]; decide), if_pos h3]
  exact ⟨e, if_neg (by rw [e]; decide)⟩
theorem sw_has (h : ¬ 0 < ah x M.B) (h2 : inZ x M.B M.n = true) (h3 : bfZ M x = false) (h4 : hasO M.B M.L x = true) : sawE M x = 2 ∧ sawM M x = M := by
  have e : sawE M x = 2 := by unfold sawE; rw [if_neg h, if_neg (by rw [h2]; decide), if_neg (by rw [h3]; decide), if_pos h4]
  exact ⟨e, if_neg (by rw [e]; decide)⟩
theorem sw_new (h : ¬ 0 < ah x M.B) (h2 : inZ x M.B M.n = true) (h3 : bfZ M x = false) (h4 : hasO M.B M.L x = false) : sawE M x = 3 ∧ sawM M x = seeM M x := by
  have e : sawE M x = 3 := by unfold sawE; rw [if_neg h, if_neg (by rw [h2]; decide), if_neg (by rw [h3]; decide), if_neg (by rw [h4]; decide)]
  exact ⟨e, if_pos e⟩
end

/-! ### Put -/
def iputE (M : IbM) (x : Int) (s : ByteArray) : Int := if ¬ 0 < ah x M.B ∧ bfZ M x = true then 1 else putE M.B M.n M.L x s
def iputM (M : IbM) (x : Int) (s : ByteArray) : IbM := if iputE M x s = 3 then { seeM M x with L := putO M.B M.n M.L x s, hd := M.hd + (s.size : Int) } else M
section
variable {M : IbM} {x : Int} {s : ByteArray}
theorem ip_fin (h : ¬ 0 < ah x M.B) (h2 : bfZ M x = true) : iputE M x s = 1 ∧ iputM M x s = M := by
  have e : iputE M x s = 1 := if_pos ⟨h, h2⟩
  exact ⟨e, if_neg (by rw [e]; decide)⟩
theorem ip_go (h : 0 < ah x M.B ∨ bfZ M x = false) : iputE M x s = putE M.B M.n M.L x s := if_neg (by
  rintro ⟨a, b⟩
  rcases h with h | h
  · exact a h
  · rw [h] at b; cases b)
theorem ip_no (h : 0 < ah x M.B ∨ bfZ M x = false) (h3 : putE M.B M.n M.L x s ≠ 3) : iputM M x s = M ∧ putO M.B M.n M.L x s = M.L :=
  ⟨if_neg (by rw [ip_go h]; exact h3), if_neg h3⟩
theorem ip_yes (h : 0 < ah x M.B ∨ bfZ M x = false) (h3 : putE M.B M.n M.L x s = 3) : iputM M x s = { seeM M x with L := putO M.B M.n M.L x s, hd := M.hd + (s.size : Int) } := if_pos (by rw [ip_go h]; exact h3)
end
/-- how far a number is that is wanted. -/
theorem IbI.see {M : IbM} (h : IbI M) {x : Int} (h2 : inZ x M.B M.n = true) : IbI (seeM M x) := by
  obtain ⟨p, hp, hpn⟩ := in_place h2
  refine ⟨Nat.le_trans h.low (Nat.le_max_left _ _), ?_, h.held, h.text, h.fin⟩
  show ((max M.k ((ah M.B x).toNat + 1) : Nat) : Int) ≤ M.n
  have := h.high
  rw [hp]
  omega
theorem IbI.put {M : IbM} (h : IbI M) {x : Int} {s : ByteArray} (hs : s.size ≤ 1048576) (h3 : putE M.B M.n M.L x s = 3) : IbI { seeM M x with L := putO M.B M.n M.L x s, hd := M.hd + (s.size : Int) } := by
  obtain ⟨a1, a2, a3, a4⟩ := pt_3 h3
  obtain ⟨p, hp, hpn⟩ := in_place a2
  have e2 := (pt_new a1 a2 a3 a4).2
  rw [hp, show (p : Int).toNat = p from rfl] at e2
  have hemp : emB (st_ M.L p) = true := by
    unfold hasO atO at a3
    rw [hp, atZ_nat] at a3
    simpa using a3
  have hl := h.low
  refine ⟨?_, ?_, ?_, ?_, h.fin⟩
  · show (putO M.B M.n M.L x s).length ≤ max M.k ((ah M.B x).toNat + 1)
    rw [e2, put_len, hp]
    show max M.L.length (p + 1) ≤ max M.k (p + 1)
    omega
  · exact (h.see a2).high
  · show M.hd + (s.size : Int) = ((M.s.size + szs (putO M.B M.n M.L x s) : Nat) : Int)
    rw [e2, szs_put _ _ _ hemp, h.held]
    omega
  · show ∀ y ∈ putO M.B M.n M.L x s, y.size ≤ 1048576
    rw [e2]
    exact mem_put h.text hs

/-! ### Fin -/
/-- does a body wait from place p on? -/
def wfZ (L : List ByteArray) (p : Nat) : Bool := (L.drop p).any fun x => !emB x
theorem wf_is {L : List ByteArray} {p : Nat} : wfZ L p = true ↔ ∃ i, p ≤ i ∧ emB (st_ L i) = false := by
  unfold wfZ
  rw [List.any_eq_true]
  constructor
  · rintro ⟨x, hx, h⟩
    obtain ⟨j, hj, e⟩ := List.mem_iff_getElem.1 hx
    refine ⟨p + j, by omega, ?_⟩
    rw [← st_drop, st_at hj, e]
    simpa using h
  · rintro ⟨i, hp, h⟩
    have hi := st_in h
    have hj : i - p < (L.drop p).length := by rw [List.length_drop]; omega
    refine ⟨(L.drop p)[i - p], List.getElem_mem hj, ?_⟩
    have e : st_ (L.drop p) (i - p) = st_ L i := by rw [st_drop, show p + (i - p) = i by omega]
    rw [st_at hj] at e
    rw [e, h]; rfl
theorem wf_no {L : List ByteArray} {p : Nat} : wfZ L p = false ↔ ∀ i, p ≤ i → emB (st_ L i) = true := by
  constructor
  · intro h i hi
    cases e : emB (st_ L i)
    · rw [wf_is.2 ⟨i, hi, e⟩] at h; cases h
    · rfl
  · intro h
    cases e : wfZ L p
    · rfl
    · obtain ⟨i, hi, q⟩ := wf_is.1 e
      rw [h i hi] at q; cases q
def finE (M : IbM) (x : Int) : Int := if inZ x M.B (M.n + 1) = false then 2 else if wfZ M.L (ah M.B x).toNat = true then 2 else if M.hf = true ∧ M.fi ≠ x then 16 else 0
def finM (M : IbM) (x : Int) : IbM := if finE M x = 0 then { M with fi := x, hf := true } else M
section
variable {M : IbM} {x : Int}
theorem fn_past (h : inZ x M.B (M.n + 1) = false) : finE M x = 2 ∧ finM M x = M := by
  have e : finE M x = 2 := if_pos h
  exact ⟨e, if_neg (by rw [e]; decide)⟩
theorem fn_wait (h : inZ x M.B (M.n + 1) = true) (h2 : wfZ M.L (ah M.B x).toNat = true) : finE M x = 2 ∧ finM M x = M := by
  have e : finE M x = 2 := by unfold finE; rw [if_neg (by rw [h]; decide), if_pos h2]
  exact ⟨e, if_neg (by rw [e]; decide)⟩
theorem fn_unlike (h : inZ x M.B (M.n + 1) = true) (h2 : wfZ M.L (ah M.B x).toNat = false) (h3 : M.hf = true) (h4 : M.fi ≠ x) : finE M x = 16 ∧ finM M x = M := by
  have e : finE M x = 16 := by unfold finE; rw [if_neg (by rw [h]; decide), if_neg (by rw [h2]; decide), if_pos ⟨h3, h4⟩]
  exact ⟨e, if_neg (by rw [e]; decide)⟩
theorem fn_set (h : inZ x M.B (M.n + 1) = true) (h2 : wfZ M.L (ah M.B x).toNat = false) (h3 : ¬ (M.hf = true ∧ M.fi ≠ x)) : finE M x = 0 ∧ finM M x = { M with fi := x, hf := true } := by
  have e : finE M x = 0 := by unfold finE; rw [if_neg (by rw [h]; decide), if_neg (by rw [h2]; decide), if_neg h3]
  exact ⟨e, if_pos e⟩
end
theorem IbI.fin_ {M : IbM} (h : IbI M) {x : Int} (hx : U32 x) : IbI (finM M x) := by
  unfold finM
  split
  · exact ⟨h.low, h.high, h.held, h.text, hx⟩
  · exact h

/-! ### Deliver -/
/-- the next body is delivered. -/
def nextM (M : IbM) : IbM := { M with B := wpl M.B 1, L := M.L.drop 1, s := M.s ++ st_ M.L 0, k := M.k - 1 }
def dlF : Nat → IbM → IbM
  | 0, M => M
  | f + 1, M => if nxO M.L ((M.q : Int) - (M.s.size : Int)) = true then dlF f (nextM M) else M
def dlM (M : IbM) : IbM := dlF M.L.length M
theorem nx_len {L : List ByteArray} {z : Int} (h : nxO L z = true) : 0 < L.length ∧ emB (st_ L 0) = false ∧ ((st_ L 0).size : Int) ≤ z := by
  unfold nxO at h
  rw [Bool.and_eq_true, decide_eq_true_eq] at h
  have e : emB (st_ L 0) = false := by simpa using h.1
  exact ⟨st_in e, e, h.2⟩
theorem dl_yes {M : IbM} (h : nxO M.L ((M.q : Int) - (M.s.size : Int)) = true) : dlM M = dlM (nextM M) := by
  obtain ⟨hl, _, _⟩ := nx_len h
  unfold dlM
  obtain ⟨m, hm⟩ : ∃ m, M.L.length = m + 1 := ⟨M.L.length - 1, by omega⟩
  have e : (nextM M).L.length = m := by show (M.L.drop 1).length = m; rw [List.length_drop]; omega
  rw [hm, e]
  show (if _ then _ else _) = _
  rw [if_pos h]
theorem dl_no {M : IbM} (h : nxO M.L ((M.q : Int) - (M.s.size : Int)) = false) : dlM M = M := by
  unfold dlM
  cases hm : M.L.length with
  | zero => rfl
  | succ m =>
    show (if _ then _ else _) = _
    rw [if_neg (by rw [h]; decide)]
theorem szs_head {L : List ByteArray} (h : 0 < L.length) : szs L = (st_ L 0).size + szs (L.drop 1) := by
  cases L with
  | nil => exact absurd h (by simp)
  | cons x r => rfl
theorem IbI.next {M : IbM} (h : IbI M) {z : Int} (hn : nxO M.L z = true) : IbI (nextM M) ∧ 1 ≤ M.k := by
  obtain ⟨hl, _, _⟩ := nx_len hn
  have h1 := h.low
  have h2 := h.high
  refine ⟨⟨?_, ?_, ?_, fun x hx => h.text x (List.mem_of_mem_drop hx), h.fin⟩, by omega⟩
  · show (M.L.drop 1).length ≤ M.k - 1
    rw [List.length_drop]; omega
  · show ((M.k - 1 : Nat) : Int) ≤ M.n
    omega
  · show M.hd = (((M.s ++ st_ M.L 0).size + szs (M.L.drop 1) : Nat) : Int)
    rw [h.held, rg_append_size, szs_head hl]
    omega
theorem nextM_wpl {M : IbM} (h : 1 ≤ M.k) : wpl (wpl M.B 1) (M.k - 1) = wpl M.B M.k := by rw [wpl_wpl, show 1 + (M.k - 1) = M.k by omega]
/-! ### Read, Ended, Ack, Lacks -/
def endZ (M : IbM) : Bool := M.hf && decide (M.fi = M.B)
def rdK (M : IbM) (z : Int) : Nat := (max 0 (min z (M.s.size : Int))).toNat
def rdE (M : IbM) (z : Int) : Int := if z < 1 then 1 else if M.s.size = 0 ∧ endZ M = true then 13 else 0
def rdS (M : IbM) (z : Int) : ByteArray := if rdE M z = 0 then M.s.extract 0 (rdK M z) else S0
def rdM (M : IbM) (z : Int) : IbM := if rdE M z = 0 then { M with s := M.s.extract (rdK M z) M.s.size, hd := M.hd - (rdK M z : Int) } else M
theorem IbI.read {M : IbM} (h : IbI M) (z : Int) : IbI (rdM M z) := by
  unfold rdM
  split
  · refine ⟨h.low, h.high, ?_, h.text, h.fin⟩
    show M.hd - (rdK M z : Int) = (((M.s.extract (rdK M z) M.s.size).size + szs M.L : Nat) : Int)
    rw [h.held, rg_cut_size]
    unfold rdK
    omega
  · exact h
def ackZ (M : IbM) : Int := if endZ M = true then wpl M.B 1 else M.B
/-- the numbers that lack, of the first m. -/
def lkL (B : Int) (L : List ByteArray) : Nat → List Int
  | 0 => []
  | m + 1 => lkL B L m ++ if emB (st_ L m) = true then [wpl B m] else []
theorem lk_len (B : Int) (L : List ByteArray) (m : Nat) : (lkL B L m).length ≤ m := by
  induction m with
  | zero => exact Nat.le_refl _
  | succ m ih =>
    show (lkL B L m ++ _).length ≤ m + 1
    rw [List.length_append]
    split <;> simp <;> omega
end Go.Proofs.Ytedecminaopgaaa

/- Proved: the calls of package jobs, spoken of a queue that was made since. Conditions: those that the theorems name. -/
import Derived.Test.YtfppmlnafalneaaDoorJbOps
namespace Go.Proofs.YtfppmlnafalneaaDoor
open Go.ChangeShapes Go.WideShapes Go.ChangeAt Go.RowKit Go.MuLone

/-- a queue made since w0. -/
structure JB (w0 w : World) (b : Nat) (r : Option Nat) (room : Int) (S : List Jb) (cl : Bool) : Prop where
  q : ∃ v, Qe w b r room S cl 0 v
  f : From (szW w0) b r
  t : Tn Nil w0 w
/-- what is not the queue's stays. -/
structure Fr (b : Nat) (w : World) (r : Option Nat) (w' : World) (r' : Option Nat) : Prop where
  tn : Tn (Mine b r) w w'
  nr : NewR w r r'
theorem Fr.at_ {b : Nat} {w w' : World} {r r' : Option Nat} (h : Fr b w r w' r') {p : Nat} {t : TypeId} {xs : List Value} (k : At w p t xs) (hp : p ≠ b ∧ r ≠ some p) : At w' p t xs ∧ (p ≠ b ∧ r' ≠ some p) := by
  refine ⟨k.tn h.tn (fun e => e.elim hp.1 hp.2), hp.1, fun e => ?_⟩
  rcases h.nr with f | ⟨g, f, q⟩
  · exact hp.2 (f ▸ e)
  · rw [f] at e; injection e with e; have := k.lt; unfold szW at q; omega
section
variable {w0 w w' : World} {b : Nat} {r : Option Nat} {room : Int} {S S' : List Jb} {cl : Bool} {B : Nat} {a0 a1 : Addr}
theorem From.low {B' : Nat} (h : From B b r) (hb : B' ≤ B) : From B' b r := ⟨Nat.le_trans hb h.1, fun g e => Nat.le_trans hb (h.2 g e)⟩
theorem JB.step {r' : Option Nat} {cl' : Bool} (h : JB w0 w b r room S cl) (f : Fr b w r w' r') (q : ∃ v, Qe w' b r' room S' cl' 0 v) : JB w0 w' b r' room S' cl' :=
  ⟨q, ⟨h.f.1, fun g e => by
    rcases f.nr with k | ⟨g', k, q⟩
    · exact h.f.2 g (k ▸ e)
    · rw [k] at e; injection e with e; rw [← e]; exact Nat.le_trans h.t.size q⟩, h.t.trans' f.tn (fun i hi e => h.f.far i hi e)⟩
theorem JB.own {c : Nat → Prop} (h : JB w0 w b r room S cl) (t : Tn c w w') (hc : ∀ g, g < w.heap.size → c g → g ≠ b ∧ r ≠ some g ∧ szW w0 ≤ g) : JB w0 w' b r room S cl := by
  obtain ⟨v, q⟩ := h.q
  exact ⟨⟨v, q.tn t (fun e => (hc b q.at_.lt e).1 rfl) (fun g hg e => (hc g (q.row.lt hg) e).2.1 hg)⟩, h.f, h.t.trans' t (fun g hg f => absurd hg (by have := (hc g (Nat.lt_of_lt_of_le hg h.t.size) f).2.2; unfold szW at this; omega))⟩
theorem JB.free (h : JB w0 w b r room S cl) (t : Tn Nil w w') : JB w0 w' b r room S cl := h.own t (fun _ _ e => e.elim)
theorem JB.new (h : JB w0 w b r room S cl) : w.heap.size ≠ b ∧ r ≠ some w.heap.size := by
  obtain ⟨v, q⟩ := h.q
  exact ⟨fun e => Nat.lt_irrefl _ (e ▸ q.at_.lt), fun e => Nat.lt_irrefl _ (q.row.lt e)⟩
theorem jB_new (room : Int) (h : 1 ≤ room ∧ room ≤ 4096) (t : Tn Nil w0 w) : Calls Tryd.prog 6 #[.int .i64 room] w fun e w' => e = .returned (.tuple #[ptv w.heap.size, .int .i64 0]) ∧ JB w0 w' w.heap.size none room [] false ∧ Tn Nil w w' := by
  refine (jb_new room w h).mono ?_
  rintro e w' ⟨rfl, q, t'⟩
  exact ⟨rfl, ⟨⟨_, q⟩, ⟨t.size, fun g e => nomatch e⟩, t.trans t'⟩, t'⟩
theorem jB_push (E : Er w0 B a0 a1) (hB : B ≤ szW w0) (h : JB w0 w b r room S cl) (hn : S.length ≤ 65536) (x : Jb) {n : Int} (he : pushE S room cl = n) (hs : pushS S room cl x = S') :
    Calls Tryd.prog 7 #[ptv b, x.val] w fun e w' => e = .returned (.int .i64 n) ∧ ∃ r', JB w0 w' b r' room S' cl ∧ Fr b w r w' r' := by
  subst he; subst hs
  obtain ⟨v, q⟩ := h.q
  refine (jb_push q (E.free h.t) (h.f.low hB) hn x).mono ?_
  rintro e w' ⟨rfl, ⟨r', v', q', nr⟩, t⟩
  exact ⟨rfl, r', h.step ⟨t, nr⟩ ⟨v', q'⟩, ⟨t, nr⟩⟩
theorem jB_pop (h : JB w0 w b r room S cl) {x : Jb} {z : Bool} (hx : popJ S = x) (hz : popB S = z) (hs : S.tail = S') :
    Calls Tryd.prog 8 #[ptv b] w fun e w' => e = .returned (.tuple #[x.val, .bool z]) ∧ JB w0 w' b r room S' cl ∧ Fr b w r w' r := by
  subst hx; subst hz; subst hs
  obtain ⟨v, q⟩ := h.q
  refine (jb_pop q).mono ?_
  rintro e w' ⟨rfl, q', t⟩
  exact ⟨rfl, h.step ⟨t, .inl rfl⟩ q', ⟨t, .inl rfl⟩⟩
theorem jB_close (h : JB w0 w b r room S cl) {n : Int} (he : (if cl = true then 11 else 0) = n) :
    Calls Tryd.prog 9 #[ptv b] w fun e w' => e = .returned (.int .i64 n) ∧ JB w0 w' b r room S true ∧ Fr b w r w' r := by
  subst he
  obtain ⟨v, q⟩ := h.q
  refine (jb_close q).mono ?_
  rintro e w' ⟨rfl, q', t⟩
  exact ⟨rfl, h.step ⟨t, .inl rfl⟩ ⟨_, q'⟩, ⟨t, .inl rfl⟩⟩
theorem jB_len (h : JB w0 w b r room S cl) {n : Nat} (he : S.length = n) :
    Calls Tryd.prog 10 #[ptv b] w fun e w' => e = .returned (.int .i64 n) ∧ JB w0 w' b r room S cl ∧ Fr b w r w' r := by
  subst he
  obtain ⟨v, q⟩ := h.q
  refine (jb_len q).mono ?_
  rintro e w' ⟨rfl, q', t⟩
  exact ⟨rfl, h.step ⟨t, .inl rfl⟩ ⟨_, q'⟩, ⟨t, .inl rfl⟩⟩
theorem jB_closed (h : JB w0 w b r room S cl) :
    Calls Tryd.prog 11 #[ptv b] w fun e w' => e = .returned (.bool cl) ∧ JB w0 w' b r room S cl ∧ Fr b w r w' r := by
  obtain ⟨v, q⟩ := h.q
  refine (jb_closed q).mono ?_
  rintro e w' ⟨rfl, q', t⟩
  exact ⟨rfl, h.step ⟨t, .inl rfl⟩ ⟨_, q'⟩, ⟨t, .inl rfl⟩⟩
end
end Go.Proofs.YtfppmlnafalneaaDoor

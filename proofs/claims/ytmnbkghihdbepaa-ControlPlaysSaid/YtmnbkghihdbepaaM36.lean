/- Proved: lemmas of one statement's proof, merged by program: what each part proves stands ahead of it. Conditions: those that the lemmas name. -/
import Derived.Test.YtmnbkghihdbepaaM33
import Derived.Test.YtmnbkghihdbepaaM34
import Derived.Deep.Slices
import Derived.Deep.Strs
import Derived.ChangeSame
import Derived.OpenShut
import Derived.Test.YtmnbkghihdbepaaM25
import Derived.Test.YtmnbkghihdbepaaM35
import Derived.Deep.RegionHeld3
import Derived.Deep.DeepCutAuto

/- Plain lemmas on deeds with a datagram that came in as a slice. No condition beyond those that each lemma names. -/
namespace Go.Proofs.Ytmnbkghihdbepaa
open Go.ChangeShapes Go.WideShapes Go.ChangeAt Go.RowKit

/-- a deed. -/
structure Ed where
  kind : Int
  d : Dg
instance : Inhabited Ed := ⟨⟨0, dgZ⟩⟩
def Ed.cells (e : Ed) : List Value := .int .i64 e.kind :: e.d.cells
theorem ten_in {l : List Value} (h : l.length = 10) : ∃ c0 c1 c2 c3 c4 c5 c6 c7 c8 c9, l = [c0, c1, c2, c3, c4, c5, c6, c7, c8, c9] := by
  match l, h with
  | [c0, c1, c2, c3, c4, c5, c6, c7, c8, c9], _ => exact ⟨c0, c1, c2, c3, c4, c5, c6, c7, c8, c9, rfl⟩
theorem eleven_in {l : List Value} (h : l.length = 11) : ∃ a r, l = a :: r ∧ r.length = 10 := by
  match l, h with
  | a :: r, h => exact ⟨a, r, rfl, by simpa using h⟩
/-- deed j. -/
def ed_ (l : List Ed) (j : Nat) : Ed := l.getD j ⟨0, dgZ⟩
/-- a deed in memory. -/
structure EdAt (w : World) (a : Addr) (e : Ed) : Prop where
  k : w.cell? a = some (.int .i64 e.kind)
  d : ∀ i v, e.d.cells[i]? = some v → w.cell? ⟨a.block, a.off + (i + 1), none⟩ = some v
/-- the slice reads as these deeds. -/
def Eds (w : World) (A : Option Addr) (n : Nat) (l : List Ed) : Prop :=
  l.length = n ∧ (∀ j, j < n → (ed_ l j).d.In) ∧ (0 < n → ∃ ad, A = some ad ∧ ad.block < w.heap.size ∧ ∀ j, j < n → EdAt w (ad.add (j * 11)) (ed_ l j))
theorem Eds.nil (w : World) (A : Option Addr) : Eds w A 0 [] := ⟨rfl, fun _ h => absurd h (by omega), fun h => absurd h (by omega)⟩
theorem Eds.at_ {w : World} {A : Option Addr} {n : Nat} {l : List Ed} (h : Eds w A n l) {k : Nat} (hk : k < n) : ∃ ad, A = some ad ∧ (ed_ l k).d.In ∧ ∀ w', Below w.heap.size w w' → EdAt w' (ad.add (k * 11)) (ed_ l k) := by
  obtain ⟨ad, e, hlt, hc⟩ := h.2.2 (by omega)
  have hl : (ad.add (k * 11)).block < w.heap.size := by rw [add_block]; omega
  exact ⟨ad, e, h.2.1 k hk, fun w' hb => ⟨(hb.cell hl).trans (hc k hk).k, fun i v hi => (hb.cell (p := ⟨(ad.add (k * 11)).block, (ad.add (k * 11)).off + (i + 1), none⟩) hl).trans ((hc k hk).d i v hi)⟩⟩
section
variable {H : Type} {enc : TypeId × Value → H} {w : World} {base : Nat} {held : Bool} {spare : Nat → Bool}
theorem dg_cells {fuel : Nat} {c0 c1 c2 c3 c4 c5 c6 c7 c8 c9 : Value} {x : DataW H × List MemPlace} (hf : DataW.trod enc Try.prog w base spare held fuel 29 [c0, c1, c2, c3, c4, c5, c6, c7, c8, c9] = some x) :
    ∃ a : Dg, a.In ∧ [c0, c1, c2, c3, c4, c5, c6, c7, c8, c9] = a.cells := by
  obtain ⟨xs, n, _, _, _, hlen, hat⟩ := DataW.trod_struct Try.underlying29 hf
  have e3 : Try.prog.cellsOf 3 = 1 := by kernel_rfl
  have e9 : Try.prog.cellsOf 9 = 1 := by kernel_rfl
  have e22 : Try.prog.cellsOf 27 = 1 := by kernel_rfl
  have hx : xs.length = 10 := hlen
  have hin : ∀ (i : Nat), i < 10 → ∃ y, xs[i]? = some y := fun i hi => ⟨_, List.getElem?_eq_getElem (by rw [hx]; exact hi)⟩
  obtain ⟨y0, j0⟩ := hin 0 (by decide)
  have g0 : DataW.trod enc Try.prog w base spare held n 3 [c0] = some y0 := by
    have h : DataW.trod enc Try.prog w base spare held n 3 (List.take (Try.prog.cellsOf 3) (List.drop 0 [c0, c1, c2, c3, c4, c5, c6, c7, c8, c9])) = xs[0]? := hat 0 _ rfl
    rw [e3, j0] at h
    exact h
  obtain ⟨y1, j1⟩ := hin 1 (by decide)
  have g1 : DataW.trod enc Try.prog w base spare held n 3 [c1] = some y1 := by
    have h : DataW.trod enc Try.prog w base spare held n 3 (List.take (Try.prog.cellsOf 3) (List.drop 1 [c0, c1, c2, c3, c4, c5, c6, c7, c8, c9])) = xs[1]? := hat 1 _ rfl
    rw [e3, j1] at h
    exact h
  obtain ⟨y2, j2⟩ := hin 2 (by decide)
  have g2 : DataW.trod enc Try.prog w base spare held n 27 [c2] = some y2 := by
    have h : DataW.trod enc Try.prog w base spare held n 27 (List.take (Try.prog.cellsOf 27) (List.drop 2 [c0, c1, c2, c3, c4, c5, c6, c7, c8, c9])) = xs[2]? := hat 2 _ rfl
    rw [e22, j2] at h
    exact h
  obtain ⟨y3, j3⟩ := hin 3 (by decide)
  have g3 : DataW.trod enc Try.prog w base spare held n 3 [c3] = some y3 := by
    have h : DataW.trod enc Try.prog w base spare held n 3 (List.take (Try.prog.cellsOf 3) (List.drop 3 [c0, c1, c2, c3, c4, c5, c6, c7, c8, c9])) = xs[3]? := hat 3 _ rfl
    rw [e3, j3] at h
    exact h
  obtain ⟨y4, j4⟩ := hin 4 (by decide)
  have g4 : DataW.trod enc Try.prog w base spare held n 3 [c4] = some y4 := by
    have h : DataW.trod enc Try.prog w base spare held n 3 (List.take (Try.prog.cellsOf 3) (List.drop 4 [c0, c1, c2, c3, c4, c5, c6, c7, c8, c9])) = xs[4]? := hat 4 _ rfl
    rw [e3, j4] at h
    exact h
  obtain ⟨y5, j5⟩ := hin 5 (by decide)
  have g5 : DataW.trod enc Try.prog w base spare held n 3 [c5] = some y5 := by
    have h : DataW.trod enc Try.prog w base spare held n 3 (List.take (Try.prog.cellsOf 3) (List.drop 5 [c0, c1, c2, c3, c4, c5, c6, c7, c8, c9])) = xs[5]? := hat 5 _ rfl
    rw [e3, j5] at h
    exact h
  obtain ⟨y6, j6⟩ := hin 6 (by decide)
  have g6 : DataW.trod enc Try.prog w base spare held n 3 [c6] = some y6 := by
    have h : DataW.trod enc Try.prog w base spare held n 3 (List.take (Try.prog.cellsOf 3) (List.drop 6 [c0, c1, c2, c3, c4, c5, c6, c7, c8, c9])) = xs[6]? := hat 6 _ rfl
    rw [e3, j6] at h
    exact h
  obtain ⟨y7, j7⟩ := hin 7 (by decide)
  have g7 : DataW.trod enc Try.prog w base spare held n 3 [c7] = some y7 := by
    have h : DataW.trod enc Try.prog w base spare held n 3 (List.take (Try.prog.cellsOf 3) (List.drop 7 [c0, c1, c2, c3, c4, c5, c6, c7, c8, c9])) = xs[7]? := hat 7 _ rfl
    rw [e3, j7] at h
    exact h
  obtain ⟨y8, j8⟩ := hin 8 (by decide)
  have g8 : DataW.trod enc Try.prog w base spare held n 9 [c8] = some y8 := by
    have h : DataW.trod enc Try.prog w base spare held n 9 (List.take (Try.prog.cellsOf 9) (List.drop 8 [c0, c1, c2, c3, c4, c5, c6, c7, c8, c9])) = xs[8]? := hat 8 _ rfl
    rw [e9, j8] at h
    exact h
  obtain ⟨y9, j9⟩ := hin 9 (by decide)
  have g9 : DataW.trod enc Try.prog w base spare held n 9 [c9] = some y9 := by
    have h : DataW.trod enc Try.prog w base spare held n 9 (List.take (Try.prog.cellsOf 9) (List.drop 9 [c0, c1, c2, c3, c4, c5, c6, c7, c8, c9])) = xs[9]? := hat 9 _ rfl
    rw [e9, j9] at h
    exact h
  obtain ⟨z0, q0, _, _⟩ := DataW.trod_int Try.underlying3 g0
  obtain ⟨z1, q1, _, _⟩ := DataW.trod_int Try.underlying3 g1
  obtain ⟨z2, q2, _, f2⟩ := DataW.trod_int Try.underlying27 g2
  obtain ⟨z3, q3, _, _⟩ := DataW.trod_int Try.underlying3 g3
  obtain ⟨z4, q4, _, _⟩ := DataW.trod_int Try.underlying3 g4
  obtain ⟨z5, q5, _, _⟩ := DataW.trod_int Try.underlying3 g5
  obtain ⟨z6, q6, _, _⟩ := DataW.trod_int Try.underlying3 g6
  obtain ⟨z7, q7, _, _⟩ := DataW.trod_int Try.underlying3 g7
  obtain ⟨z8, q8, _, f8⟩ := DataW.trod_string Try.underlying9 g8
  obtain ⟨z9, q9, _, f9⟩ := DataW.trod_string Try.underlying9 g9
  have hb : 0 ≤ z2 ∧ z2 ≤ 4294967295 := by simpa [Lit.wf, IntKind.min, IntKind.max, IntKind.signed, IntKind.bits] using f2
  obtain ⟨m, rfl⟩ := Int.eq_ofNat_of_zero_le hb.1
  simp at q0 q1 q2 q3 q4 q5 q6 q7 q8 q9
  subst q0 q1 q2 q3 q4 q5 q6 q7 q8 q9
  exact ⟨⟨z0, z1, m, z3, z4, z5, z6, z7, z8, z9⟩, ⟨by show m < 4294967296; omega, f8, f9⟩, rfl⟩
theorem ed_cells {fuel : Nat} {cs : List Value} (hl : cs.length = 11) {x : DataW H × List MemPlace} (hf : DataW.trod enc Try.prog w base spare held fuel 31 cs = some x) :
    ∃ e : Ed, e.d.In ∧ cs = e.cells := by
  have e3 : Try.prog.cellsOf 3 = 1 := by kernel_rfl
  have e29 : Try.prog.cellsOf 29 = 10 := by kernel_rfl
  obtain ⟨a, r, rfl, hr⟩ := eleven_in hl
  obtain ⟨c0, c1, c2, c3, c4, c5, c6, c7, c8, c9, rfl⟩ := ten_in hr
  obtain ⟨y0, y1, k, _, _, h0, h1⟩ := trod_struct2 Try.underlying31 hf
  rw [e3] at h0
  rw [e29] at h1
  obtain ⟨z, hz, _⟩ := DataW.trod_int Try.underlying3 h0
  have hz' : a = .int .i64 z := by simpa using hz
  obtain ⟨d, hd, e⟩ := dg_cells (c0 := c0) (c1 := c1) (c2 := c2) (c3 := c3) (c4 := c4) (c5 := c5) (c6 := c6) (c7 := c7) (c8 := c8) (c9 := c9) h1
  exact ⟨⟨z, d⟩, hd, by rw [hz', e]; rfl⟩
theorem eds_arg {a : Option Addr} {len cap : Nat} {d : DataW H} {p : List MemPlace} (h : DataW.Trod enc Try.prog w base (fun _ => true) held 22 (.slice a len cap) d p) : ∃ l, Eds w a len l := by
  obtain ⟨fuel, hf⟩ := h
  rcases Go.Deep.open_slice Try.underlying22 hf with ⟨hcs, _⟩ | ⟨x, l, c, m, n, D, Pl, hcs, _, hl, _, hm, _, hi⟩
  · simp [Value.cells] at hcs
    obtain ⟨rfl, rfl, rfl⟩ := hcs
    exact ⟨[], Eds.nil _ _⟩
  · simp [Value.cells] at hcs
    obtain ⟨rfl, rfl, rfl⟩ := hcs
    have hm' : m = cap := by simpa using hm
    have e38 : Try.prog.cellsOf 31 = 11 := by kernel_rfl
    have key : ∀ i, i < len → ∃ y : Ed, y.d.In ∧ EdAt w (x.add (i * 11)) y := fun i h => by
      obtain ⟨cs', hc, ht⟩ := hi i (by omega)
      rw [e38] at hc
      obtain ⟨_, hcl, hat⟩ := World.cells?_some hc
      obtain ⟨y, hy, rfl⟩ := ed_cells hcl ht
      refine ⟨y, hy, ?_, fun j v hj => ?_⟩
      · have h2 := hat 0 (by decide)
        rw [Addr.add_zero'] at h2
        rw [h2]; rfl
      · have hj' : j < 10 := (List.getElem?_eq_some_iff.1 hj).1
        have h2 := hat (j + 1) (by omega)
        have e : ((x.add (i * 11)).add (j + 1)) = ⟨(x.add (i * 11)).block, (x.add (i * 11)).off + (j + 1), none⟩ := rfl
        rw [e] at h2
        exact h2.trans hj
    obtain ⟨f, hf⟩ := Go.Deep.choose_lt key
    have hat : ∀ j, j < len → ed_ ((List.range len).map f) j = f j := fun j hj => by
      unfold ed_
      rw [List.getD_eq_getElem?_getD, List.getElem?_map, List.getElem?_range hj]; rfl
    refine ⟨(List.range len).map f, by simp, fun j hj => by rw [hat j hj]; exact (hf j hj).1, fun h0 => ?_⟩
    have h1 := World.block_lt_of_cell? w _ (hf 0 h0).2.k
    rw [add_block] at h1
    exact ⟨x, rfl, h1, fun j hj => by rw [hat j hj]; exact (hf j hj).2⟩
end
end Go.Proofs.Ytmnbkghihdbepaa

/- Proved: the walk of the law that plays what is to be said. Conditions: those that the theorems name. -/
namespace Go.Proofs.Ytmnbkghihdbepaa
open Go.ChangeShapes Go.WideShapes Go.ChangeAt Go.RowKit

/-- what the program holds, and a slice of the document's. -/
def MidC (w : World) (b : Nat) (S S' : List Dg) (A : Option Addr) (cp : Nat) (wr : World) : Prop :=
  ∃ L, L.b = b ∧ CB w wr L S ∧ Cl wr (fun g => ¬ L.own g) A (dcs S') ∧ S'.length ≤ cp ∧ (A = none → cp = 0)
section
variable {w wr w' : World} {b cp : Nat} {S S' : List Dg} {A : Option Addr}
theorem MidC.below (h : MidC w b S S' A cp wr) (k : Below wr.heap.size wr w') : MidC w b S S' A cp w' := by
  obtain ⟨L, hb, hc, hx, h1, h2⟩ := h
  exact ⟨L, hb, hc.below k, hx.below k, h1, h2⟩
theorem MidC.bel (h : MidC w b S S' A cp wr) : Below w.heap.size w wr := by
  obtain ⟨L, hb, hc, _⟩ := h
  exact hc.bel
theorem rask_any {c : Nat → Prop} (h : Cl wr c A (dcs S)) (hc : ∀ g, wr.heap.size ≤ g → c g) (hS : S.length ≤ 60000) (h1 : S.length ≤ cp) (h2 : A = none → cp = 0) (d : Dg) (hi : d.block < 4294967296) :
    Calls Try.prog 7 #[.slice A S.length cp, d.val] wr (GivesR wr c (askS S d) (refE d)) := by
  by_cases hr : refE d = 0
  · rw [hr]
    exact rask_good h hc hS d hi hr
  · refine (rask_bad d rfl hr).mono ?_
    rintro e w' ⟨rfl, b⟩
    rw [askS_bad hr]
    exact ⟨A, cp, rfl, h.below b, h1, h2, b⟩
theorem MidC.doc {S2 : List Dg} {z : Int} (h : MidC w b S S' A cp wr) {P : (Nat → Prop) → Ending → World → Prop} (hP : ∀ c, P c = GivesR wr c S2 z) {f : Nat} {args : Array Value} (hf : ∀ c : Nat → Prop, Cl wr c A (dcs S') → (∀ g, wr.heap.size ≤ g → c g) → Calls Try.prog f args wr (P c)) :
    Calls Try.prog f args wr fun e w' => ∃ A3 cp3, e = .returned (.tuple #[.slice A3 S2.length cp3, .int .i64 z]) ∧ MidC w b S S2 A3 cp3 w' ∧ Below wr.heap.size wr w' := by
  obtain ⟨L, hb, hc, hx, h1, h2⟩ := h
  refine (hf _ hx hc.ahead).mono ?_
  intro e w' g
  rw [hP] at g
  obtain ⟨A3, cp3, rfl, k1, k2, k3, k4⟩ := g
  exact ⟨A3, cp3, rfl, ⟨L, hb, hc.below k4, k1, k2, k3⟩, k4⟩
theorem MidC.few (h : MidC w b S S' A cp wr) : S'.length ≤ cp ∧ (A = none → cp = 0) := by
  obtain ⟨L, _, _, _, h1, h2⟩ := h
  exact ⟨h1, h2⟩
theorem MidC.blk (h : MidC w b S S' A cp wr) : ∀ d ∈ S, d.block < 4294967296 := by
  obtain ⟨L, _, hc, _⟩ := h
  exact fun d hd => (hc.ok d hd).b
theorem mc_ask_doc (h : MidC w b S S A cp wr) (hS : S.length ≤ 60000) (d : Dg) (hi : d.block < 4294967296) :
    Calls Try.prog 7 #[.slice A S.length cp, d.val] wr fun e w' => ∃ A3 cp3, e = .returned (.tuple #[.slice A3 (askS S d).length cp3, .int .i64 (refE d)]) ∧ MidC w b S (askS S d) A3 cp3 w' ∧ Below wr.heap.size wr w' :=
  h.doc (fun _ => rfl) fun _ hx hc => rask_any hx hc hS h.few.1 h.few.2 d hi
theorem mc_drop_doc (h : MidC w b S S A cp wr) (hS : S.length ≤ 60000) (s : Int) :
    Calls Try.prog 12 #[.slice A S.length cp, .int .i64 s] wr fun e w' => ∃ A3 cp3, e = .returned (.tuple #[.slice A3 (keepS (dropU s) S).length cp3, .int .i64 ((S.length - (keepS (dropU s) S).length : Nat) : Int)]) ∧ MidC w b S (keepS (dropU s) S) A3 cp3 w' ∧ Below wr.heap.size wr w' :=
  h.doc (fun _ => rfl) fun _ hx hc => rdrop_any hx hc hS s
theorem mc_clean_doc (h : MidC w b S S A cp wr) (hS : S.length ≤ 60000) (s base : Int) (hu : U32 base) :
    Calls Try.prog 10 #[.slice A S.length cp, .int .i64 s, .int .u32 base] wr fun e w' => ∃ A3 cp3, e = .returned (.tuple #[.slice A3 (keepS (cleanU s base) S).length cp3, .int .i64 ((S.length - (keepS (cleanU s base) S).length : Nat) : Int)]) ∧ MidC w b S (keepS (cleanU s base) S) A3 cp3 w' ∧ Below wr.heap.size wr w' :=
  h.doc (fun _ => rfl) fun _ hx hc => rclean_any hx hc hS h.blk s base hu
theorem mc_ask (h : MidC w b S S' A cp wr) (hS : S.length ≤ 60000) (d : Dg) (hd : d.In) (e : askS S d = S') :
    Calls Try.prog 8 #[ptv b, d.val] wr fun e w' => e = .returned (.int .i64 (refE d)) ∧ MidC w b S' S' A cp w' := by
  obtain ⟨L, rfl, hc, hx, h1, h2⟩ := h
  subst e
  refine (cb_ask hc hS hd).mono ?_
  rintro e w' ⟨rfl, L', k, f⟩
  exact ⟨rfl, L', f.b, k, f.cl hx, h1, h2⟩
theorem mc_drop (h : MidC w b S S' A cp wr) (hS : S.length ≤ 60000) (s : Int) (e : keepS (dropU s) S = S') :
    Calls Try.prog 13 #[ptv b, .int .i64 s] wr fun e w' => e = .returned (.int .i64 ((S.length - S'.length : Nat) : Int)) ∧ MidC w b S' S' A cp w' := by
  obtain ⟨L, rfl, hc, hx, h1, h2⟩ := h
  subst e
  refine (cb_drop hc hS s).mono ?_
  rintro e w' ⟨rfl, k, f⟩
  exact ⟨rfl, L, rfl, k, f.cl hx, h1, h2⟩
theorem mc_clean (h : MidC w b S S' A cp wr) (hS : S.length ≤ 60000) (s base : Int) (hu : U32 base) (e : keepS (cleanU s base) S = S') :
    Calls Try.prog 11 #[ptv b, .int .i64 s, .int .u32 base] wr fun e w' => e = .returned (.int .i64 ((S.length - S'.length : Nat) : Int)) ∧ MidC w b S' S' A cp w' := by
  obtain ⟨L, rfl, hc, hx, h1, h2⟩ := h
  subst e
  refine (cb_clean hc hS s base hu).mono ?_
  rintro e w' ⟨rfl, k, f⟩
  exact ⟨rfl, L, rfl, k, f.cl hx, h1, h2⟩
theorem mc_len (h : MidC w b S S' A cp wr) : Calls Try.prog 14 #[ptv b] wr fun e w' => e = .returned (.int .i64 (S.length : Nat)) ∧ wr = w' := by
  obtain ⟨L, rfl, hc, _⟩ := h
  exact cb_len hc
theorem mc_next_none (h : MidC w b [] S' A cp wr) : Calls Try.prog 9 #[ptv b] wr fun e w' => e = .returned (.tuple #[dgZ.val, .bool false]) ∧ Below wr.heap.size wr w' := by
  obtain ⟨L, rfl, hc, _⟩ := h
  exact cb_next_none hc
theorem mc_next {x : Dg} (h : MidC w b (x :: S) S' A cp wr) (hS : S.length ≤ 60000) : Calls Try.prog 9 #[ptv b] wr fun e w' => e = .returned (.tuple #[x.val, .bool true]) ∧ MidC w b S S' A cp w' := by
  obtain ⟨L, rfl, hc, hx, h1, h2⟩ := h
  refine (cb_next hc hS).mono ?_
  rintro e w' ⟨rfl, k, f⟩
  exact ⟨rfl, L, rfl, k, f.cl hx, h1, h2⟩
/-- the document's slice without its first one. -/
theorem mc_rest {x : Dg} (h : MidC w b S (x :: S') A cp wr) : ∃ A', (∀ W : World, (Instr.slice 26 (.slice A (S'.length + 1) cp) (some (.int .i64 1)) none none).run Try.prog W = .ok (.slice A' S'.length (cp - 1)) W) ∧ MidC w b S S' A' (cp - 1) wr := by
  obtain ⟨L, hb, hc, hx, h1, h2⟩ := h
  have h1 : S'.length + 1 ≤ cp := h1
  obtain ⟨g, o, e, hcg, hg, hcells⟩ := hx (by rw [dcs_len, List.length_cons]; omega)
  subst e
  obtain ⟨A', hrun, hno, hA'⟩ := rest_part (t := 26) Try.underlying26 infoDg (by decide) g o (S'.length + 1) cp 1 (by omega)
  refine ⟨A', hrun, L, hb, hc, ?_, by omega, fun e => (hno e).elim⟩
  by_cases hcp : 1 < cp
  · rw [hA' hcp]
    exact hx.drop 10
  · have : S' = [] := List.eq_nil_of_length_eq_zero (by omega)
    subst this
    exact Cl.nil _ _ _
end
end Go.Proofs.Ytmnbkghihdbepaa

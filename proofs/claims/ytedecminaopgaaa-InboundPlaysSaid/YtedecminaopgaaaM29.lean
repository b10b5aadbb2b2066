/- Proved: lemmas of one statement's proof, merged by program: what each part proves stands ahead of it. Conditions: those that the lemmas name. -/
import Derived.Test.YtedecminaopgaaaM21
import Derived.Test.YtedecminaopgaaaM8
import Derived.Test.YtedecminaopgaaaM28

/- Plain lemmas on bodies and numbers of the document's state, beside the program's. No condition beyond those that each lemma names. -/
namespace Go.Proofs.Ytedecminaopgaaa
open Go.ChangeShapes Go.WideShapes Go.ChangeAt Go.RowKit

/-- how many bytes these bodies have. -/
def szX : List Xb → Nat
  | [] => 0
  | y :: r => y.2.size + szX r
theorem szX_app (l r : List Xb) : szX (l ++ r) = szX l + szX r := by
  induction l with
  | nil => simp [szX]
  | cons x l ih => show x.2.size + szX (l ++ r) = x.2.size + szX l + szX r; rw [ih]; omega
theorem szX_take {X : List Xb} {j : Nat} {y : Xb} (h : X[j]? = some y) : szX (X.take (j + 1)) = szX (X.take j) + y.2.size := by
  rw [List.take_add_one, h, szX_app]
  simp [szX]
section
variable {B : Int} {L : List ByteArray} {X : List Xb}
/-- nothing waits at the head: the head is passed. -/
theorem Rel.skip (h : Rel B L X) (h0 : emB (st_ L 0) = true) (hl : 0 < L.length) (h64 : L.length ≤ 64) : Rel (wpl B 1) (L.drop 1) X := by
  refine ⟨h.one, fun y s => ?_, ?_⟩
  · rw [h.all]
    constructor
    · rintro ⟨j, hj, e, hs, he⟩
      have hj0 : j ≠ 0 := fun ej => by
        rw [ej] at hs
        rw [← hs, h0] at he
        cases he
      refine ⟨j - 1, by rw [List.length_drop]; omega, ?_, ?_, he⟩
      · rw [wpl_wpl, show 1 + (j - 1) = j by omega]; exact e
      · rw [st_drop, show 1 + (j - 1) = j by omega]; exact hs
    · rintro ⟨j, hj, e, hs, he⟩
      rw [List.length_drop] at hj
      rw [wpl_wpl] at e
      rw [st_drop] at hs
      exact ⟨1 + j, by omega, e, hs, he⟩
  · rw [h.count]
    cases L with
    | nil => exact absurd hl (by simp)
    | cons y r =>
      have h0' : emB y = true := h0
      show (if emB y = true then 0 else 1) + cntO r = cntO r
      rw [if_pos h0']; omega
theorem Rel.sum (h : Rel B L X) (hB : U32 B) (h64 : L.length ≤ 64) : szX X = szs L := by
  generalize hn : L.length = n at *
  induction n generalizing B L X with
  | zero =>
    have hL : L = [] := List.eq_nil_of_length_eq_zero hn
    subst hL
    have hX : X = [] := List.eq_nil_of_length_eq_zero h.count
    subst hX
    rfl
  | succ n ih =>
    have hl : 0 < L.length := by omega
    have hd : (L.drop 1).length = n := by rw [List.length_drop]; omega
    rw [szs_head hl]
    cases h0 : emB (st_ L 0)
    · have hm : (B, st_ L 0) ∈ X := (h.all _ _).2 ⟨0, hl, (wpl_zero hB).symm, rfl, h0⟩
      obtain ⟨i, hi, e⟩ := List.mem_iff_getElem.1 hm
      have hi' : X[i]? = some (B, st_ L 0) := by rw [List.getElem?_eq_getElem hi, e]
      have h2 := h.next hB (by omega) hi'
      have h3 := ih h2 (wpl_u32 _ _) hd (by omega)
      have h4 := congrArg szX (split_at hi')
      rw [szX_app] at h3 h4
      have h5 : szX ((B, st_ L 0) :: X.drop (i + 1)) = (st_ L 0).size + szX (X.drop (i + 1)) := rfl
      omega
    · have h2 := h.skip h0 hl (by omega)
      have h3 := ih h2 (wpl_u32 _ _) hd (by omega)
      have h4 : (st_ L 0).size = 0 := by rw [em_is.1 h0]; rfl
      omega
/-- does a body wait that is not less? -/
theorem Rel.wf (h : Rel B L X) (h64 : L.length ≤ 64) {p : Nat} (hp : p ≤ 65) : wfZ L p = true ↔ ∃ y ∈ X, ¬ 0 < ah y.1 (wpl B p) := by
  rw [wf_is]
  constructor
  · rintro ⟨i, hi, he⟩
    have hL := st_in he
    refine ⟨(wpl B i, st_ L i), (h.all _ _).2 ⟨i, hL, rfl, rfl, he⟩, ?_⟩
    show ¬ 0 < ah (wpl B i) (wpl B p)
    rw [ah_wpl (by omega) (by omega)]
    omega
  · rintro ⟨⟨y, s⟩, hy, hn⟩
    obtain ⟨i, hi, e, hs, he⟩ := (h.all _ _).1 hy
    have hn : ¬ 0 < ah y (wpl B p) := hn
    rw [e, ah_wpl (by omega) (by omega)] at hn
    exact ⟨i, by omega, by rw [hs]; exact he⟩
end

/-! ### those that were seen -/
/-- The number behind the greatest one of those that were seen; base moved so many times, and so many wait, in j deeds. -/
structure Sv (M : IbM) (S : List Int) (d : Nat) : Prop where
  ins : ∀ x ∈ S, U32 x ∧ -(d : Int) ≤ ah M.B x ∧ ah M.B x < M.k
  top : M.k = 0 ∨ ∃ x ∈ S, ah M.B x = M.k - 1
theorem ah_step {B x : Int} (hB : U32 B) (hx : U32 x) (h : -1000000 ≤ ah B x) : ah (wpl B 1) x = ah B x - 1 := by
  unfold U32 at *
  unfold wpl
  unfold ah at *
  split at h <;> (try split at h) <;> (split <;> (try split)) <;> omega
theorem Sv.next {M : IbM} {S : List Int} {d : Nat} (h : Sv M S d) (hB : U32 M.B) (hk : 1 ≤ M.k) (hd : d ≤ 1000) : Sv (nextM M) S (d + 1) := by
  have st := fun x hx => ah_step hB (h.ins x hx).1 (by have := (h.ins x hx).2.1; omega)
  refine ⟨fun x hx => ?_, ?_⟩
  · obtain ⟨a, b, c⟩ := h.ins x hx
    refine ⟨a, ?_, ?_⟩
    · show _ ≤ ah (wpl M.B 1) x
      rw [st x hx]; omega
    · show ah (wpl M.B 1) x < ((M.k - 1 : Nat) : Int)
      rw [st x hx]; omega
  · rcases h.top with e | ⟨x, hx, e⟩
    · omega
    · rcases Nat.eq_or_lt_of_le hk with e1 | e1
      · exact .inl (by show M.k - 1 = 0; omega)
      · refine .inr ⟨x, hx, ?_⟩
        show ah (wpl M.B 1) x = ((M.k - 1 : Nat) : Int) - 1
        rw [st x hx, e]; omega
theorem Sv.see {M : IbM} {S : List Int} {d : Nat} (h : Sv M S d) {x : Int} (hx : U32 x) (hi : inZ x M.B M.n = true) : Sv (seeM M x) (S ++ [x]) d := by
  obtain ⟨p, hp, _⟩ := in_place hi
  have hk : (seeM M x).k = max M.k (p + 1) := by show max M.k ((ah M.B x).toNat + 1) = _; rw [hp]; rfl
  refine ⟨fun y hy => ?_, ?_⟩
  · rw [hk]
    show U32 y ∧ -(d : Int) ≤ ah M.B y ∧ ah M.B y < _
    rcases List.mem_append.1 hy with hy | hy
    · obtain ⟨a, b, c⟩ := h.ins y hy
      exact ⟨a, b, by omega⟩
    · have hy : y = x := by simpa using hy
      subst hy
      exact ⟨hx, by omega, by omega⟩
  · right
    rw [hk]
    show ∃ y ∈ S ++ [x], ah M.B y = _
    rcases Nat.lt_or_ge p M.k with e | e
    · rcases h.top with e2 | ⟨y, hy, e2⟩
      · omega
      · exact ⟨y, List.mem_append.2 (.inl hy), by rw [e2]; omega⟩
    · exact ⟨x, List.mem_append.2 (.inr (by simp)), by rw [hp]; omega⟩
/-- the same base, and the same number behind the greatest one. -/
theorem Sv.same {M M' : IbM} {S : List Int} {d : Nat} (h : Sv M S d) (e1 : M'.B = M.B) (e2 : M'.k = M.k) : Sv M' S d := ⟨by rw [e1, e2]; exact h.ins, by rw [e1, e2]; exact h.top⟩
/-- In j deeds. -/
structure SvJ (M : IbM) (S : List Int) (j : Nat) : Prop where
  sv : ∃ d, d + cntO M.L ≤ j ∧ Sv M S d
  few : S.length ≤ j
theorem cnt_head {L : List ByteArray} (h : 0 < L.length) (h0 : emB (st_ L 0) = false) : cntO L = cntO (L.drop 1) + 1 := by
  cases L with
  | nil => exact absurd h (by simp)
  | cons y r =>
    have h0' : emB y = false := h0
    show (if emB y = true then 0 else 1) + cntO r = cntO r + 1
    rw [if_neg (by rw [h0']; decide)]; omega
theorem SvJ.dlF {M : IbM} {S : List Int} {j : Nat} (h : SvJ M S j) (hj : j ≤ 1000) (hI : IbI M) (hB : U32 M.B) (f : Nat) : SvJ (dlF f M) S j ∧ IbI (dlF f M) ∧ U32 (dlF f M).B := by
  induction f generalizing M with
  | zero => exact ⟨h, hI, hB⟩
  | succ f ih =>
    show SvJ (if _ then _ else _) S j ∧ IbI (if _ then _ else _) ∧ U32 (if _ then _ else _ : IbM).B
    split
    · rename_i hn
      obtain ⟨h1, h2⟩ := hI.next hn
      obtain ⟨hl, he, _⟩ := nx_len hn
      obtain ⟨d, hd, hs⟩ := h.sv
      have hc := cnt_head hl he
      refine ih ⟨⟨d + 1, ?_, hs.next hB h2 (by omega)⟩, h.few⟩ h1 (wpl_u32 _ _)
      show d + 1 + cntO (M.L.drop 1) ≤ j
      omega
    · exact ⟨h, hI, hB⟩
theorem SvJ.more {M : IbM} {S : List Int} {j : Nat} (h : SvJ M S j) : SvJ M S (j + 1) := by
  obtain ⟨d, a, b⟩ := h.sv
  exact ⟨⟨d, by omega, b⟩, by have := h.few; omega⟩
theorem SvJ.same {M M' : IbM} {S : List Int} {j : Nat} (h : SvJ M S j) (e1 : M'.B = M.B) (e2 : M'.k = M.k) (e3 : M'.L = M.L) : SvJ M' S j := by
  obtain ⟨d, a, b⟩ := h.sv
  exact ⟨⟨d, by rw [e3]; exact a, b.same e1 e2⟩, h.few⟩
theorem SvJ.see {M : IbM} {S : List Int} {j : Nat} (h : SvJ M S j) {x : Int} (hx : U32 x) (hi : inZ x M.B M.n = true) : SvJ (seeM M x) (S ++ [x]) (j + 1) := by
  obtain ⟨d, a, b⟩ := h.sv
  exact ⟨⟨d, by show d + cntO M.L ≤ j + 1; omega, b.see hx hi⟩, by rw [List.length_append]; have := h.few; simp; omega⟩
theorem SvJ.put {M : IbM} {S : List Int} {j : Nat} (h : SvJ M S j) {x : Int} (hx : U32 x) {s : ByteArray} {z : Int} (h3 : putE M.B M.n M.L x s = 3) : SvJ { seeM M x with L := putO M.B M.n M.L x s, hd := z } (S ++ [x]) (j + 1) := by
  obtain ⟨a1, a2, a3, a4⟩ := pt_3 h3
  obtain ⟨p, hp, hpn⟩ := in_place a2
  have e2 := (pt_new a1 a2 a3 a4).2
  rw [hp, show (p : Int).toNat = p from rfl] at e2
  have hemp : emB (st_ M.L p) = true := by
    unfold hasO atO at a3
    rw [hp, atZ_nat] at a3
    simpa using a3
  obtain ⟨d, a, b⟩ := h.sv
  refine ⟨⟨d, ?_, (b.see hx a2).same rfl rfl⟩, by rw [List.length_append]; have := h.few; simp; omega⟩
  show d + cntO (putO M.B M.n M.L x s) ≤ j + 1
  rw [e2, put_cnt _ _ _ hemp a4]
  omega
end Go.Proofs.Ytedecminaopgaaa

/- Proved: what the document's Put of what a stream takes answers. Conditions: those that the theorems name. -/
namespace Go.Proofs.Ytedecminaopgaaa
open Go.ChangeShapes Go.WideShapes Go.ChangeAt Go.RowKit

theorem res_riput {T : Array Value} {W : World} {b : Nat} {c : Cf} {M : IbM} {p : RiP} {z : Int} (h2 : T.getD 6 undef = .pointer (some ⟨b, 0, none⟩)) (h3 : T.getD 7 undef = .int .i64 z) (h : At W b tI (ri c M p)) : (results Try.f32 T).run Try.prog W = .ok (.tuple #[riV c M p, .int .i64 z]) W := by
  have h2' : T[6]?.getD undef = .pointer (some ⟨b, 0, none⟩) := by simpa using h2
  have h3' : T[7]?.getD undef = .int .i64 z := by simpa using h3
  have hl := ri_out h
  simp [results, Try.results32, h2', h3', hl, asAddr]
/-- those that were seen. -/
def putS (M : IbM) (S : List Int) (x : Int) (s : ByteArray) : List Int := if iputE M x s = 3 then S ++ [x] else S
/-- the document's order within a state is another one. -/
theorem At.order3 {W : World} {b : Nat} {c : Cf} {M : IbM} {p : RiP} (h : At W b tI (ri c M p)) (B n : Int) (A : Option Addr) (m k : Nat) :
    At (((W.setCell ⟨b, 11, none⟩ (.int .u32 B)).setCell ⟨b, 12, none⟩ (.int .i64 n)).setCell ⟨b, 13, none⟩ (.slice A m k)) b tI (ri c { M with B := B, n := n } { p with oA := A, om := m, oc := k }) := ((h.set_ 11 _).set_ 12 _).set_ 13 _
theorem order3_tn (W : World) (b : Nat) (x y z : Value) : Tn (fun i => i = b) W (((W.setCell ⟨b, 11, none⟩ x).setCell ⟨b, 12, none⟩ y).setCell ⟨b, 13, none⟩ z) :=
  (((Tn.refl (fun i => i = b) W).set ⟨b, 11, none⟩ x (fun _ => rfl)).set ⟨b, 12, none⟩ y (fun _ => rfl)).set ⟨b, 13, none⟩ z (fun _ => rfl)
/-- A state and a number come back. -/
def GivesRi (c : Cf) (M : IbM) (S : List Int) (W : World) (v : Value) (e : Ending) (w' : World) : Prop :=
  ∃ p X, e = .returned (.tuple #[riV c M p, v]) ∧ RiM w' M p S X ∧ Below W.heap.size W w'
/-- a state that reads as M does. -/
def LikeM (M' M : IbM) : Prop := M'.B = M.B ∧ M'.n = M.n ∧ M'.s = M.s ∧ M'.fi = M.fi ∧ M'.hf = M.hf ∧ M'.L = M.L
theorem LikeM.val {M' M : IbM} (h : LikeM M' M) (c : Cf) (p : RiP) : riV c M' p = riV c M p := by
  obtain ⟨h1, h2, h3, h4, h5, _⟩ := h
  unfold riV ri
  rw [h1, h2, h3, h4, h5]
theorem LikeM.mem {M' M : IbM} (h : LikeM M' M) {w : World} {p : RiP} {S : List Int} {X : List Xb} (k : RiM w M' p S X) : RiM w M p S X :=
  ⟨k.o, k.om, k.oc, k.on, k.s, k.sc, k.sn, by have := k.rel; rw [h.1, h.2.2.2.2.2] at this; exact this⟩
theorem GivesRi.of {c : Cf} {M' M : IbM} {S : List Int} {W w' : World} {v : Value} {e : Ending} (h : LikeM M' M) {p : RiP} {X : List Xb} (he : e = .returned (.tuple #[riV c M' p, v])) (hr : RiM w' M' p S X) (hb : Below W.heap.size W w') : GivesRi c M S W v e w' :=
  ⟨p, X, by rw [he, h.val], h.mem hr, hb⟩
set_option maxRecDepth 100000 in
set_option maxHeartbeats 3200000 in
theorem ri_Put (c : Cf) (M : IbM) (p : RiP) (S : List Int) (X : List Xb) (x : Int) (s : ByteArray) (w : World) (h : RiM w M p S X) (hs : S.length ≤ 300) (hB : U32 M.B) (hx : U32 x) (hf : U32 M.fi) (hl : M.L.length ≤ 64) :
    Calls Try.prog 32 #[riV c M p, .int .u32 x, .string s] w (GivesRi c (iputM M x s) (putS M S x s) w (.int .i64 (iputE M x s))) := by
  obtain ⟨W, HW, A1, A2, B1, hsz⟩ := riboxes c M p w
  have HR := Lib.hid (h.below B1)
  have HA1 := Lib.hid A1
  have HA2 := Lib.hid A2
  have HB1 := Lib.hid B1
  have HS : Hid (W.heap.size = w.heap.size + 2) := Lib.hid hsz
  have HSL := Lib.hid hs
  have HL := Lib.hid (fun W => rless_any x M.B hx hB W)
  have HF := Lib.hid (ri_behind c M p x W hx hf)
  have HP : Hid (∀ V, RiM V M p S X → Calls Try.prog 57 #[.agg #[.int .u32 M.B, .int .i64 M.n, .slice p.oA p.om p.oc], .int .u32 x, .string s] V (GivesPt V M.B M.n (putO M.B M.n M.L x s) (putE M.B M.n M.L x s))) := Lib.hid fun V g => by
    rw [g.om]
    exact rput_any M.B M.n p.oA p.oc M.L X x s V g.o (by rw [← g.om]; exact g.oc) g.on g.rel hB hx hl
  clear A1 A2 B1 hsz h hs hB hx hf hl
  by_cases h1 : 0 < ah x M.B ∨ bfZ M x = false
  · have e1 := ip_go (s := s) h1
    have HN := Lib.hid (fun h3 => ip_no (s := s) h1 h3)
    have HY := Lib.hid (fun h3 => ip_yes (s := s) h1 h3)
    have hor : bfZ M x = false ∨ (bfZ M x = true ∧ decide (0 < ah x M.B) = true) := by
      cases a : bfZ M x
      · exact .inl rfl
      · exact .inr ⟨rfl, decide_eq_true (h1.resolve_right (by rw [a]; decide))⟩
    clear h1
    by_cases h3 : putE M.B M.n M.L x s = 3
    · have HG : Hid (∀ e w', (∃ M' p2 X', e = .returned (.tuple #[riV c M' p2, .int .i64 3]) ∧ (M'.B = M.B ∧ M'.n = M.n ∧ M'.s = M.s ∧ M'.fi = M.fi ∧ M'.hf = M.hf ∧ M'.L = putO M.B M.n M.L x s) ∧ RiM w' M' p2 (S ++ [x]) X' ∧ Below w.heap.size w w') → GivesRi c (iputM M x s) (putS M S x s) w (.int .i64 (iputE M x s)) e w') := Lib.hid fun e w' q => by
        obtain ⟨M', p2, X', q1, q2, q3, q4⟩ := q
        have e2 : iputE M x s = 3 := e1.trans h3
        rw [HY.out h3, show putS M S x s = S ++ [x] from if_pos e2, e2]
        exact .of ⟨q2.1, q2.2.1, q2.2.2.1, q2.2.2.2.1, q2.2.2.2.2.1, q2.2.2.2.2.2⟩ q1 q3 q4
      rw [h3] at HP
      clear HN HY h3 e1
      rcases hor with h1 | ⟨h1, h2⟩
      · rw [h1] at HF
        clear h1 HL
        go_enter Try.func32, Try.ntmps32
        go_upto_region 1 with fail
        change Code.wp _ _ _ _ ((w.alloc (.cells (ri c M p).toArray tI)).alloc (.cells riZ.toArray tI))
        rw [← HW]; clear HW
        go_wp2_with (refine wpi_load rfl _ rfl rfl HA1.out ?_)
        refine HF.out.mono ?_; rintro e w2 ⟨rfl, g2⟩
        have HA3 := Lib.hid (HA1.out.below g2 HA1.out.lt)
        have HA4 := Lib.hid (HA2.out.below g2 HA2.out.lt)
        have HR2 := Lib.hid (HR.out.below g2)
        have HB2 := Lib.hid (HB1.out.trans (g2.mono HB1.out.size))
        clear g2
        have k11 := HA3.out.cell 11 rfl
        have k12 := HA3.out.cell 12 rfl
        have k13 := HA3.out.cell 13 rfl
        have f11 := HA3.out.free 11
        have f12 := HA3.out.free 12
        have f13 := HA3.out.free 13
        go_wp2_with fail
        refine (HP.out _ HR2.out).mono ?_; rintro e w3 ⟨A', c', X', rfl, hc', hA', hw', hr', g3⟩
        have HA5 := Lib.hid (HA3.out.below g3 HA3.out.lt)
        have HB5 := Lib.hid (HA4.out.below g3 HA4.out.lt)
        have HB3 := Lib.hid (HB2.out.trans (g3.mono HB2.out.size))
        have HU := Lib.hid (HR2.out.below g3)
        have HX := Lib.hid (And.intro hc' (And.intro hA' (And.intro hw' hr')))
        clear hc' hA' hw' hr' k11 k12 k13 f11 f12 f13
        have k11 := HA5.out.cell 11 rfl
        have k12 := HA5.out.cell 12 rfl
        have k13 := HA5.out.cell 13 rfl
        have f11 := HA5.out.free 11
        have f12 := HA5.out.free 12
        have f13 := HA5.out.free 13
        have HG3 := Lib.hid g3.size
        clear g3
        obtain ⟨V4, hV4⟩ : ∃ V, V = w3.alloc (.cells #[.int .u32 M.B, .int .i64 M.n, .slice A' X'.length c'] 35) := ⟨_, rfl⟩
        have bV : Below w3.heap.size w3 V4 := by rw [hV4]; exact (Below.refl _ _).alloc (Nat.le_refl _) _
        have HA6 := Lib.hid (HA5.out.below bV HA5.out.lt)
        have HB6 := Lib.hid (HB5.out.below bV HB5.out.lt)
        have HB4 := Lib.hid (HB3.out.trans (bV.mono HB3.out.size))
        have HO6 : Hid (At V4 w3.heap.size 35 (roC M.B M.n A' X'.length c')) := Lib.hid (by rw [hV4]; exact At.new w3 35 (roC M.B M.n A' X'.length c'))
        obtain ⟨M', hM'⟩ : ∃ M' : IbM, M' = { M with L := putO M.B M.n M.L x s } := ⟨_, rfl⟩
        obtain ⟨p', hp'⟩ : ∃ p' : RiP, p' = { p with oA := A', om := X'.length, oc := c' } := ⟨_, rfl⟩
        have HR6 : Hid (RiM V4 M' p' S X') := Lib.hid (by
          rw [hM', hp']
          have u := HU.out.below bV
          exact ⟨HX.out.2.2.1.below bV, rfl, HX.out.1, HX.out.2.1, u.s, u.sc, u.sn, HX.out.2.2.2⟩)
        have HMP : Hid (M'.B = M.B ∧ M'.n = M.n ∧ M'.s = M.s ∧ M'.fi = M.fi ∧ M'.hf = M.hf ∧ M'.L = putO M.B M.n M.L x s) := Lib.hid (by rw [hM']; exact ⟨rfl, rfl, rfl, rfl, rfl, rfl⟩)
        have HAE : Hid (At (((V4.setCell ⟨w.heap.size, 11, none⟩ (.int .u32 M.B)).setCell ⟨w.heap.size, 12, none⟩ (.int .i64 M.n)).setCell ⟨w.heap.size, 13, none⟩ (.slice A' X'.length c')) w.heap.size tI (ri c M' p')) := Lib.hid (by
          rw [hM', hp']
          exact HA6.out.order3 M.B M.n A' X'.length c')
        have TT := order3_tn V4 w.heap.size (.int .u32 M.B) (.int .i64 M.n) (.slice A' X'.length c')
        have HAF := Lib.hid (HB6.out.tn TT (show ¬ (w.heap.size + 1) = w.heap.size by omega))
        have HRF := Lib.hid (HR6.out.tn HA6.out TT)
        have HBF := Lib.hid (TT.below HB4.out HB4.out.size (fun i hi e => by have e : i = w.heap.size := e; omega))
        clear k11 k12 k13 f11 f12 f13 TT bV HX HU HA5 HB5 HA3 HA4 HR2 HB2
        have j11 := HA6.out.cell 11 rfl
        have j12 := HA6.out.cell 12 rfl
        have j13 := HA6.out.cell 13 rfl
        have i11 := HA6.out.free 11
        have i12 := HA6.out.free 12
        have i13 := HA6.out.free 13
        have o0 := HO6.out.cell 0 rfl
        have o1 := HO6.out.cell 1 rfl
        have o2 := HO6.out.cell 2 rfl
        go_upto_region 4 with fail
        rw [← hV4]
        clear hV4 hM' hp'
        go_upto_region 5 with fail
        change Code.wp _ _ _ _ (((V4.setCell ⟨w.heap.size, 11, none⟩ (.int .u32 M.B)).setCell ⟨w.heap.size, 12, none⟩ (.int .i64 M.n)).setCell ⟨w.heap.size, 13, none⟩ (.slice A' X'.length c'))
        generalize ((V4.setCell ⟨w.heap.size, 11, none⟩ (.int .u32 M.B)).setCell ⟨w.heap.size, 12, none⟩ (.int .i64 M.n)).setCell ⟨w.heap.size, 13, none⟩ (.slice A' X'.length c') = w5 at *
        clear j11 j12 j13 i11 i12 i13 o0 o1 o2
        go_wp2_with (refine wpi_load rfl _ rfl rfl HAE.out ?_)
        refine (ri_saw c M' p' S X' x w5 HRF.out HSL.out).mono ?_; rintro e w6 ⟨p2, rfl, hr6, g6⟩
        have HR7 := Lib.hid hr6
        have HA7 := Lib.hid (HAE.out.below g6 HAE.out.lt)
        have HB7 := Lib.hid (HAF.out.below g6 HAF.out.lt)
        have HB8 := Lib.hid (HBF.out.trans (g6.mono HBF.out.size))
        clear hr6 g6
        go_upto_region 7 with (refine wpi_store rfl _ _ rfl rfl rfl HA7.out rfl ?_; intro w7 ha7 ht7; have HA9 := Lib.hid ha7; have HT9 := Lib.hid ht7; clear ha7 ht7)
        have HB9 := Lib.hid (HB7.out.tn HT9.out (show ¬ (w.heap.size + 1) = w.heap.size by omega))
        have HR9 := Lib.hid (HR7.out.tn HA7.out HT9.out)
        have HBA := Lib.hid (HT9.out.below HB8.out HB8.out.size (fun i hi e => by have e : i = w.heap.size := e; omega))
        go_wp2_with (first | (refine wpi_load rfl _ rfl rfl HA9.out ?_) | (refine wpi_store rfl _ _ rfl rfl rfl HB9.out rfl ?_; intro wA haA htA; have HAA := Lib.hid haA; have HTA := Lib.hid htA; clear haA htA))
        exact bodyPost_ret (v := .tuple #[riV c M' p2, .int .i64 3]) (res_riput rfl rfl HAA.out) rfl (HG.out _ _ ⟨M', p2, X', rfl, HMP.out, HR9.out.tn HB9.out HTA.out, HTA.out.below HBA.out HBA.out.size fun i hi e => by have e : i = w.heap.size + 1 := e; omega⟩)
      · rw [h1] at HF
        rw [h2] at HL
        clear h1 h2
        go_enter Try.func32, Try.ntmps32
        go_upto_region 1 with fail
        change Code.wp _ _ _ _ ((w.alloc (.cells (ri c M p).toArray tI)).alloc (.cells riZ.toArray tI))
        rw [← HW]; clear HW
        go_wp2_with (refine wpi_load rfl _ rfl rfl HA1.out ?_)
        refine HF.out.mono ?_; rintro e w2 ⟨rfl, g2⟩
        have HA3 := Lib.hid (HA1.out.below g2 HA1.out.lt)
        have HA4 := Lib.hid (HA2.out.below g2 HA2.out.lt)
        have HR2 := Lib.hid (HR.out.below g2)
        have HB2 := Lib.hid (HB1.out.trans (g2.mono HB1.out.size))
        clear g2
        have k11 := HA3.out.cell 11 rfl
        have k12 := HA3.out.cell 12 rfl
        have k13 := HA3.out.cell 13 rfl
        have f11 := HA3.out.free 11
        have f12 := HA3.out.free 12
        have f13 := HA3.out.free 13
        go_wp2_with fail
        refine (HL.out _).mono ?_; rintro e w2' ⟨rfl, rfl⟩
        go_wp2_with fail
        refine (HP.out _ HR2.out).mono ?_; rintro e w3 ⟨A', c', X', rfl, hc', hA', hw', hr', g3⟩
        have HA5 := Lib.hid (HA3.out.below g3 HA3.out.lt)
        have HB5 := Lib.hid (HA4.out.below g3 HA4.out.lt)
        have HB3 := Lib.hid (HB2.out.trans (g3.mono HB2.out.size))
        have HU := Lib.hid (HR2.out.below g3)
        have HX := Lib.hid (And.intro hc' (And.intro hA' (And.intro hw' hr')))
        clear hc' hA' hw' hr' k11 k12 k13 f11 f12 f13
        have k11 := HA5.out.cell 11 rfl
        have k12 := HA5.out.cell 12 rfl
        have k13 := HA5.out.cell 13 rfl
        have f11 := HA5.out.free 11
        have f12 := HA5.out.free 12
        have f13 := HA5.out.free 13
        have HG3 := Lib.hid g3.size
        clear g3
        obtain ⟨V4, hV4⟩ : ∃ V, V = w3.alloc (.cells #[.int .u32 M.B, .int .i64 M.n, .slice A' X'.length c'] 35) := ⟨_, rfl⟩
        have bV : Below w3.heap.size w3 V4 := by rw [hV4]; exact (Below.refl _ _).alloc (Nat.le_refl _) _
        have HA6 := Lib.hid (HA5.out.below bV HA5.out.lt)
        have HB6 := Lib.hid (HB5.out.below bV HB5.out.lt)
        have HB4 := Lib.hid (HB3.out.trans (bV.mono HB3.out.size))
        have HO6 : Hid (At V4 w3.heap.size 35 (roC M.B M.n A' X'.length c')) := Lib.hid (by rw [hV4]; exact At.new w3 35 (roC M.B M.n A' X'.length c'))
        obtain ⟨M', hM'⟩ : ∃ M' : IbM, M' = { M with L := putO M.B M.n M.L x s } := ⟨_, rfl⟩
        obtain ⟨p', hp'⟩ : ∃ p' : RiP, p' = { p with oA := A', om := X'.length, oc := c' } := ⟨_, rfl⟩
        have HR6 : Hid (RiM V4 M' p' S X') := Lib.hid (by
          rw [hM', hp']
          have u := HU.out.below bV
          exact ⟨HX.out.2.2.1.below bV, rfl, HX.out.1, HX.out.2.1, u.s, u.sc, u.sn, HX.out.2.2.2⟩)
        have HMP : Hid (M'.B = M.B ∧ M'.n = M.n ∧ M'.s = M.s ∧ M'.fi = M.fi ∧ M'.hf = M.hf ∧ M'.L = putO M.B M.n M.L x s) := Lib.hid (by rw [hM']; exact ⟨rfl, rfl, rfl, rfl, rfl, rfl⟩)
        have HAE : Hid (At (((V4.setCell ⟨w.heap.size, 11, none⟩ (.int .u32 M.B)).setCell ⟨w.heap.size, 12, none⟩ (.int .i64 M.n)).setCell ⟨w.heap.size, 13, none⟩ (.slice A' X'.length c')) w.heap.size tI (ri c M' p')) := Lib.hid (by
          rw [hM', hp']
          exact HA6.out.order3 M.B M.n A' X'.length c')
        have TT := order3_tn V4 w.heap.size (.int .u32 M.B) (.int .i64 M.n) (.slice A' X'.length c')
        have HAF := Lib.hid (HB6.out.tn TT (show ¬ (w.heap.size + 1) = w.heap.size by omega))
        have HRF := Lib.hid (HR6.out.tn HA6.out TT)
        have HBF := Lib.hid (TT.below HB4.out HB4.out.size (fun i hi e => by have e : i = w.heap.size := e; omega))
        clear k11 k12 k13 f11 f12 f13 TT bV HX HU HA5 HB5 HA3 HA4 HR2 HB2
        have j11 := HA6.out.cell 11 rfl
        have j12 := HA6.out.cell 12 rfl
        have j13 := HA6.out.cell 13 rfl
        have i11 := HA6.out.free 11
        have i12 := HA6.out.free 12
        have i13 := HA6.out.free 13
        have o0 := HO6.out.cell 0 rfl
        have o1 := HO6.out.cell 1 rfl
        have o2 := HO6.out.cell 2 rfl
        go_upto_region 4 with fail
        rw [← hV4]
        clear hV4 hM' hp'
        go_upto_region 5 with fail
        change Code.wp _ _ _ _ (((V4.setCell ⟨w.heap.size, 11, none⟩ (.int .u32 M.B)).setCell ⟨w.heap.size, 12, none⟩ (.int .i64 M.n)).setCell ⟨w.heap.size, 13, none⟩ (.slice A' X'.length c'))
        generalize ((V4.setCell ⟨w.heap.size, 11, none⟩ (.int .u32 M.B)).setCell ⟨w.heap.size, 12, none⟩ (.int .i64 M.n)).setCell ⟨w.heap.size, 13, none⟩ (.slice A' X'.length c') = w5 at *
        clear j11 j12 j13 i11 i12 i13 o0 o1 o2
        go_wp2_with (refine wpi_load rfl _ rfl rfl HAE.out ?_)
        refine (ri_saw c M' p' S X' x w5 HRF.out HSL.out).mono ?_; rintro e w6 ⟨p2, rfl, hr6, g6⟩
        have HR7 := Lib.hid hr6
        have HA7 := Lib.hid (HAE.out.below g6 HAE.out.lt)
        have HB7 := Lib.hid (HAF.out.below g6 HAF.out.lt)
        have HB8 := Lib.hid (HBF.out.trans (g6.mono HBF.out.size))
        clear hr6 g6
        go_upto_region 7 with (refine wpi_store rfl _ _ rfl rfl rfl HA7.out rfl ?_; intro w7 ha7 ht7; have HA9 := Lib.hid ha7; have HT9 := Lib.hid ht7; clear ha7 ht7)
        have HB9 := Lib.hid (HB7.out.tn HT9.out (show ¬ (w.heap.size + 1) = w.heap.size by omega))
        have HR9 := Lib.hid (HR7.out.tn HA7.out HT9.out)
        have HBA := Lib.hid (HT9.out.below HB8.out HB8.out.size (fun i hi e => by have e : i = w.heap.size := e; omega))
        go_wp2_with (first | (refine wpi_load rfl _ rfl rfl HA9.out ?_) | (refine wpi_store rfl _ _ rfl rfl rfl HB9.out rfl ?_; intro wA haA htA; have HAA := Lib.hid haA; have HTA := Lib.hid htA; clear haA htA))
        exact bodyPost_ret (v := .tuple #[riV c M' p2, .int .i64 3]) (res_riput rfl rfl HAA.out) rfl (HG.out _ _ ⟨M', p2, X', rfl, HMP.out, HR9.out.tn HB9.out HTA.out, HTA.out.below HBA.out HBA.out.size fun i hi e => by have e : i = w.heap.size + 1 := e; omega⟩)
    · have HG : Hid (∀ e w', (∃ M' p2 X', e = .returned (.tuple #[riV c M' p2, .int .i64 (putE M.B M.n M.L x s)]) ∧ (M'.B = M.B ∧ M'.n = M.n ∧ M'.s = M.s ∧ M'.fi = M.fi ∧ M'.hf = M.hf ∧ M'.L = putO M.B M.n M.L x s) ∧ RiM w' M' p2 S X' ∧ Below w.heap.size w w') → GivesRi c (iputM M x s) (putS M S x s) w (.int .i64 (iputE M x s)) e w') := Lib.hid fun e w' q => by
        obtain ⟨M', p2, X', q1, q2, q3, q4⟩ := q
        obtain ⟨e3, e4⟩ := HN.out h3
        rw [e3, show putS M S x s = S from if_neg (by rw [e1]; exact h3), e1]
        exact .of ⟨q2.1, q2.2.1, q2.2.2.1, q2.2.2.2.1, q2.2.2.2.2.1, q2.2.2.2.2.2.trans e4⟩ q1 q3 q4
      obtain ⟨z, hz⟩ : ∃ z, putE M.B M.n M.L x s = z := ⟨_, rfl⟩
      rw [hz] at HP HG h3
      have h3' : (z == 3) = false := by simpa using h3
      clear HN HY h3 e1 hz
      rcases hor with h1 | ⟨h1, h2⟩
      · rw [h1] at HF
        clear h1 HL
        go_enter Try.func32, Try.ntmps32
        go_upto_region 1 with fail
        change Code.wp _ _ _ _ ((w.alloc (.cells (ri c M p).toArray tI)).alloc (.cells riZ.toArray tI))
        rw [← HW]; clear HW
        go_wp2_with (refine wpi_load rfl _ rfl rfl HA1.out ?_)
        refine HF.out.mono ?_; rintro e w2 ⟨rfl, g2⟩
        have HA3 := Lib.hid (HA1.out.below g2 HA1.out.lt)
        have HA4 := Lib.hid (HA2.out.below g2 HA2.out.lt)
        have HR2 := Lib.hid (HR.out.below g2)
        have HB2 := Lib.hid (HB1.out.trans (g2.mono HB1.out.size))
        clear g2
        have k11 := HA3.out.cell 11 rfl
        have k12 := HA3.out.cell 12 rfl
        have k13 := HA3.out.cell 13 rfl
        have f11 := HA3.out.free 11
        have f12 := HA3.out.free 12
        have f13 := HA3.out.free 13
        go_wp2_with fail
        refine (HP.out _ HR2.out).mono ?_; rintro e w3 ⟨A', c', X', rfl, hc', hA', hw', hr', g3⟩
        have HA5 := Lib.hid (HA3.out.below g3 HA3.out.lt)
        have HB5 := Lib.hid (HA4.out.below g3 HA4.out.lt)
        have HB3 := Lib.hid (HB2.out.trans (g3.mono HB2.out.size))
        have HU := Lib.hid (HR2.out.below g3)
        have HX := Lib.hid (And.intro hc' (And.intro hA' (And.intro hw' hr')))
        clear hc' hA' hw' hr' k11 k12 k13 f11 f12 f13
        have k11 := HA5.out.cell 11 rfl
        have k12 := HA5.out.cell 12 rfl
        have k13 := HA5.out.cell 13 rfl
        have f11 := HA5.out.free 11
        have f12 := HA5.out.free 12
        have f13 := HA5.out.free 13
        have HG3 := Lib.hid g3.size
        clear g3
        obtain ⟨V4, hV4⟩ : ∃ V, V = w3.alloc (.cells #[.int .u32 M.B, .int .i64 M.n, .slice A' X'.length c'] 35) := ⟨_, rfl⟩
        have bV : Below w3.heap.size w3 V4 := by rw [hV4]; exact (Below.refl _ _).alloc (Nat.le_refl _) _
        have HA6 := Lib.hid (HA5.out.below bV HA5.out.lt)
        have HB6 := Lib.hid (HB5.out.below bV HB5.out.lt)
        have HB4 := Lib.hid (HB3.out.trans (bV.mono HB3.out.size))
        have HO6 : Hid (At V4 w3.heap.size 35 (roC M.B M.n A' X'.length c')) := Lib.hid (by rw [hV4]; exact At.new w3 35 (roC M.B M.n A' X'.length c'))
        obtain ⟨M', hM'⟩ : ∃ M' : IbM, M' = { M with L := putO M.B M.n M.L x s } := ⟨_, rfl⟩
        obtain ⟨p', hp'⟩ : ∃ p' : RiP, p' = { p with oA := A', om := X'.length, oc := c' } := ⟨_, rfl⟩
        have HR6 : Hid (RiM V4 M' p' S X') := Lib.hid (by
          rw [hM', hp']
          have u := HU.out.below bV
          exact ⟨HX.out.2.2.1.below bV, rfl, HX.out.1, HX.out.2.1, u.s, u.sc, u.sn, HX.out.2.2.2⟩)
        have HMP : Hid (M'.B = M.B ∧ M'.n = M.n ∧ M'.s = M.s ∧ M'.fi = M.fi ∧ M'.hf = M.hf ∧ M'.L = putO M.B M.n M.L x s) := Lib.hid (by rw [hM']; exact ⟨rfl, rfl, rfl, rfl, rfl, rfl⟩)
        have HAE : Hid (At (((V4.setCell ⟨w.heap.size, 11, none⟩ (.int .u32 M.B)).setCell ⟨w.heap.size, 12, none⟩ (.int .i64 M.n)).setCell ⟨w.heap.size, 13, none⟩ (.slice A' X'.length c')) w.heap.size tI (ri c M' p')) := Lib.hid (by
          rw [hM', hp']
          exact HA6.out.order3 M.B M.n A' X'.length c')
        have TT := order3_tn V4 w.heap.size (.int .u32 M.B) (.int .i64 M.n) (.slice A' X'.length c')
        have HAF := Lib.hid (HB6.out.tn TT (show ¬ (w.heap.size + 1) = w.heap.size by omega))
        have HRF := Lib.hid (HR6.out.tn HA6.out TT)
        have HBF := Lib.hid (TT.below HB4.out HB4.out.size (fun i hi e => by have e : i = w.heap.size := e; omega))
        clear k11 k12 k13 f11 f12 f13 TT bV HX HU HA5 HB5 HA3 HA4 HR2 HB2
        have j11 := HA6.out.cell 11 rfl
        have j12 := HA6.out.cell 12 rfl
        have j13 := HA6.out.cell 13 rfl
        have i11 := HA6.out.free 11
        have i12 := HA6.out.free 12
        have i13 := HA6.out.free 13
        have o0 := HO6.out.cell 0 rfl
        have o1 := HO6.out.cell 1 rfl
        have o2 := HO6.out.cell 2 rfl
        go_upto_region 4 with fail
        rw [← hV4]
        clear hV4 hM' hp'
        go_upto_region 5 with fail
        change Code.wp _ _ _ _ (((V4.setCell ⟨w.heap.size, 11, none⟩ (.int .u32 M.B)).setCell ⟨w.heap.size, 12, none⟩ (.int .i64 M.n)).setCell ⟨w.heap.size, 13, none⟩ (.slice A' X'.length c'))
        generalize ((V4.setCell ⟨w.heap.size, 11, none⟩ (.int .u32 M.B)).setCell ⟨w.heap.size, 12, none⟩ (.int .i64 M.n)).setCell ⟨w.heap.size, 13, none⟩ (.slice A' X'.length c') = w5 at *
        clear j11 j12 j13 i11 i12 i13 o0 o1 o2
        go_wp2_with (first | (refine wpi_load rfl _ rfl rfl HAE.out ?_) | (refine wpi_store rfl _ _ rfl rfl rfl HAF.out rfl ?_; intro wA haA htA; have HAA := Lib.hid haA; have HTA := Lib.hid htA; clear haA htA))
        exact bodyPost_ret (v := .tuple #[riV c M' p', .int .i64 z]) (res_riput rfl rfl HAA.out) rfl (HG.out _ _ ⟨M', p', X', rfl, HMP.out, HRF.out.tn HAF.out HTA.out, HTA.out.below HBF.out HBF.out.size fun i hi e => by have e : i = w.heap.size + 1 := e; omega⟩)
      · rw [h1] at HF
        rw [h2] at HL
        clear h1 h2
        go_enter Try.func32, Try.ntmps32
        go_upto_region 1 with fail
        change Code.wp _ _ _ _ ((w.alloc (.cells (ri c M p).toArray tI)).alloc (.cells riZ.toArray tI))
        rw [← HW]; clear HW
        go_wp2_with (refine wpi_load rfl _ rfl rfl HA1.out ?_)
        refine HF.out.mono ?_; rintro e w2 ⟨rfl, g2⟩
        have HA3 := Lib.hid (HA1.out.below g2 HA1.out.lt)
        have HA4 := Lib.hid (HA2.out.below g2 HA2.out.lt)
        have HR2 := Lib.hid (HR.out.below g2)
        have HB2 := Lib.hid (HB1.out.trans (g2.mono HB1.out.size))
        clear g2
        have k11 := HA3.out.cell 11 rfl
        have k12 := HA3.out.cell 12 rfl
        have k13 := HA3.out.cell 13 rfl
        have f11 := HA3.out.free 11
        have f12 := HA3.out.free 12
        have f13 := HA3.out.free 13
        go_wp2_with fail
        refine (HL.out _).mono ?_; rintro e w2' ⟨rfl, rfl⟩
        go_wp2_with fail
        refine (HP.out _ HR2.out).mono ?_; rintro e w3 ⟨A', c', X', rfl, hc', hA', hw', hr', g3⟩
        have HA5 := Lib.hid (HA3.out.below g3 HA3.out.lt)
        have HB5 := Lib.hid (HA4.out.below g3 HA4.out.lt)
        have HB3 := Lib.hid (HB2.out.trans (g3.mono HB2.out.size))
        have HU := Lib.hid (HR2.out.below g3)
        have HX := Lib.hid (And.intro hc' (And.intro hA' (And.intro hw' hr')))
        clear hc' hA' hw' hr' k11 k12 k13 f11 f12 f13
        have k11 := HA5.out.cell 11 rfl
        have k12 := HA5.out.cell 12 rfl
        have k13 := HA5.out.cell 13 rfl
        have f11 := HA5.out.free 11
        have f12 := HA5.out.free 12
        have f13 := HA5.out.free 13
        have HG3 := Lib.hid g3.size
        clear g3
        obtain ⟨V4, hV4⟩ : ∃ V, V = w3.alloc (.cells #[.int .u32 M.B, .int .i64 M.n, .slice A' X'.length c'] 35) := ⟨_, rfl⟩
        have bV : Below w3.heap.size w3 V4 := by rw [hV4]; exact (Below.refl _ _).alloc (Nat.le_refl _) _
        have HA6 := Lib.hid (HA5.out.below bV HA5.out.lt)
        have HB6 := Lib.hid (HB5.out.below bV HB5.out.lt)
        have HB4 := Lib.hid (HB3.out.trans (bV.mono HB3.out.size))
        have HO6 : Hid (At V4 w3.heap.size 35 (roC M.B M.n A' X'.length c')) := Lib.hid (by rw [hV4]; exact At.new w3 35 (roC M.B M.n A' X'.length c'))
        obtain ⟨M', hM'⟩ : ∃ M' : IbM, M' = { M with L := putO M.B M.n M.L x s } := ⟨_, rfl⟩
        obtain ⟨p', hp'⟩ : ∃ p' : RiP, p' = { p with oA := A', om := X'.length, oc := c' } := ⟨_, rfl⟩
        have HR6 : Hid (RiM V4 M' p' S X') := Lib.hid (by
          rw [hM', hp']
          have u := HU.out.below bV
          exact ⟨HX.out.2.2.1.below bV, rfl, HX.out.1, HX.out.2.1, u.s, u.sc, u.sn, HX.out.2.2.2⟩)
        have HMP : Hid (M'.B = M.B ∧ M'.n = M.n ∧ M'.s = M.s ∧ M'.fi = M.fi ∧ M'.hf = M.hf ∧ M'.L = putO M.B M.n M.L x s) := Lib.hid (by rw [hM']; exact ⟨rfl, rfl, rfl, rfl, rfl, rfl⟩)
        have HAE : Hid (At (((V4.setCell ⟨w.heap.size, 11, none⟩ (.int .u32 M.B)).setCell ⟨w.heap.size, 12, none⟩ (.int .i64 M.n)).setCell ⟨w.heap.size, 13, none⟩ (.slice A' X'.length c')) w.heap.size tI (ri c M' p')) := Lib.hid (by
          rw [hM', hp']
          exact HA6.out.order3 M.B M.n A' X'.length c')
        have TT := order3_tn V4 w.heap.size (.int .u32 M.B) (.int .i64 M.n) (.slice A' X'.length c')
        have HAF := Lib.hid (HB6.out.tn TT (show ¬ (w.heap.size + 1) = w.heap.size by omega))
        have HRF := Lib.hid (HR6.out.tn HA6.out TT)
        have HBF := Lib.hid (TT.below HB4.out HB4.out.size (fun i hi e => by have e : i = w.heap.size := e; omega))
        clear k11 k12 k13 f11 f12 f13 TT bV HX HU HA5 HB5 HA3 HA4 HR2 HB2
        have j11 := HA6.out.cell 11 rfl
        have j12 := HA6.out.cell 12 rfl
        have j13 := HA6.out.cell 13 rfl
        have i11 := HA6.out.free 11
        have i12 := HA6.out.free 12
        have i13 := HA6.out.free 13
        have o0 := HO6.out.cell 0 rfl
        have o1 := HO6.out.cell 1 rfl
        have o2 := HO6.out.cell 2 rfl
        go_upto_region 4 with fail
        rw [← hV4]
        clear hV4 hM' hp'
        go_upto_region 5 with fail
        change Code.wp _ _ _ _ (((V4.setCell ⟨w.heap.size, 11, none⟩ (.int .u32 M.B)).setCell ⟨w.heap.size, 12, none⟩ (.int .i64 M.n)).setCell ⟨w.heap.size, 13, none⟩ (.slice A' X'.length c'))
        generalize ((V4.setCell ⟨w.heap.size, 11, none⟩ (.int .u32 M.B)).setCell ⟨w.heap.size, 12, none⟩ (.int .i64 M.n)).setCell ⟨w.heap.size, 13, none⟩ (.slice A' X'.length c') = w5 at *
        clear j11 j12 j13 i11 i12 i13 o0 o1 o2
        go_wp2_with (first | (refine wpi_load rfl _ rfl rfl HAE.out ?_) | (refine wpi_store rfl _ _ rfl rfl rfl HAF.out rfl ?_; intro wA haA htA; have HAA := Lib.hid haA; have HTA := Lib.hid htA; clear haA htA))
        exact bodyPost_ret (v := .tuple #[riV c M' p', .int .i64 z]) (res_riput rfl rfl HAA.out) rfl (HG.out _ _ ⟨M', p', X', rfl, HMP.out, HRF.out.tn HAF.out HTA.out, HTA.out.below HBF.out HBF.out.size fun i hi e => by have e : i = w.heap.size + 1 := e; omega⟩)
  · have h2 : ¬ 0 < ah x M.B := fun e => h1 (.inl e)
    have h3 : bfZ M x = true := by
      cases e : bfZ M x
      · exact absurd (.inr e) h1
      · rfl
    obtain ⟨e1, e2⟩ := ip_fin (s := s) h2 h3
    rw [decide_eq_false h2] at HL
    rw [h3] at HF
    rw [e2, show putS M S x s = S from if_neg (by rw [e1]; decide), e1]
    clear e1 e2 h1 h2 h3 HP
    go_enter Try.func32, Try.ntmps32
    go_upto_region 1 with fail
    change Code.wp _ _ _ _ ((w.alloc (.cells (ri c M p).toArray tI)).alloc (.cells riZ.toArray tI))
    rw [← HW]; clear HW
    go_wp2_with (refine wpi_load rfl _ rfl rfl HA1.out ?_)
    refine HF.out.mono ?_; rintro e w2 ⟨rfl, g2⟩
    have HA3 := Lib.hid (HA1.out.below g2 HA1.out.lt)
    have HA4 := Lib.hid (HA2.out.below g2 HA2.out.lt)
    have HR2 := Lib.hid (HR.out.below g2)
    have HB2 := Lib.hid (HB1.out.trans (g2.mono HB1.out.size))
    clear g2
    have k11 := HA3.out.cell 11 rfl
    have k12 := HA3.out.cell 12 rfl
    have k13 := HA3.out.cell 13 rfl
    have f11 := HA3.out.free 11
    have f12 := HA3.out.free 12
    have f13 := HA3.out.free 13
    go_wp2_with fail
    refine (HL.out _).mono ?_; rintro e w2' ⟨rfl, rfl⟩
    go_wp2_with (first | (refine wpi_load rfl _ rfl rfl HA3.out ?_) | (refine wpi_store rfl _ _ rfl rfl rfl HA4.out rfl ?_; intro wA haA htA; have HAA := Lib.hid haA; have HTA := Lib.hid htA; clear haA htA))
    exact bodyPost_ret (v := .tuple #[riV c M p, .int .i64 1]) (res_riput rfl rfl HAA.out) rfl ⟨p, X, rfl, HR2.out.tn HA4.out HTA.out, HTA.out.below HB2.out HB2.out.size fun i hi e => by have e : i = w.heap.size + 1 := e; omega⟩
end Go.Proofs.Ytedecminaopgaaa

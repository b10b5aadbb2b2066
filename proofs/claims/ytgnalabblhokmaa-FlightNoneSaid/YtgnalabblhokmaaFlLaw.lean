/- Proved: flights that were made since the call began, and the first calls of the laws of package flight. Conditions: those that the theorems name. -/
import Derived.Test.YtgnalabblhokmaaFlWants
import Derived.Test.YtgnalabblhokmaaFlDue
import Derived.Test.YtgnalabblhokmaaFlAck
import Derived.Test.YtgnalabblhokmaaFlAdd
namespace Go.Proofs.Ytgnalabblhokmaa
open Go.ChangeShapes Go.WideShapes Go.ChangeAt Go.RowKit

/-! ### what lists read as, while a flight turns -/
/-- lists of numbers, and of what is to be sent, read as they did. -/
def Reads (w w' : World) : Prop := (∀ A n l, Sn w A n l → Sn w' A n l) ∧ ∀ A n l, Uw w A n l → Uw w' A n l
theorem Reads.below {w w' : World} (h : Below w.heap.size w w') : Reads w w' := ⟨fun _ _ _ x => x.below h, fun _ _ _ x => x.below h⟩
theorem Fl.types {w : World} {f : Nat} {wd nx : Int} {r : Option Nat} {v : Value} {L : List Bl} (h : Fl w f wd nx r v L) : ∀ g, FlOwn f r g → ∃ c t, w.heap[g]? = some (.cells c t (0, 0)) ∧ (t = 43 ∨ t = 45) := by
  rintro g (rfl | e)
  · exact ⟨_, _, h.own, .inl rfl⟩
  · rcases h.row.2 with ⟨_, _, e'⟩ | ⟨g', o, cap, cur, e', _, hb, _⟩
    · rw [e] at e'; cases e'
    · rw [e] at e'; injection e' with e'; subst e'; exact ⟨_, _, hb, .inr rfl⟩
theorem Reads.turned {w w' : World} {f : Nat} {wd nx : Int} {r : Option Nat} {v : Value} {L : List Bl} (h : Fl w f wd nx r v L) (t : Tn (FlOwn f r) w w') : Reads w w' := by
  have no : ∀ (ty : TypeId), ty ≠ 43 → ty ≠ 45 → ∀ (g : Nat) (xs : Array Value) (q : Nat × Nat), w.heap[g]? = some (Obj.cells xs ty q) → w'.heap[g]? = w.heap[g]? := fun ty n1 n2 g xs q hg =>
    t.block g (Array.getElem?_eq_some_iff.1 hg).1 fun e => by
      obtain ⟨c, t, hc, ht⟩ := h.types g e
      rw [hg] at hc
      injection hc with hc
      injection hc with _ hc _
      subst hc
      rcases ht with ht | ht
      · exact n1 ht
      · exact n2 ht
  exact ⟨fun _ _ _ x => x.move (no _ (by decide) (by decide)), fun _ _ _ x => x.move (no _ (by decide) (by decide))⟩

/-! ### a flight of the call's own -/
/-- Block b is a flight that was made since w; of what was there in w nothing has turned. -/
def FB (w wi : World) (b : Nat) (wd nx : Int) (L : List Bl) : Prop := ∃ r v, Fl wi b wd nx r v L ∧ w.heap.size ≤ b ∧ (∀ x, r = some x → w.heap.size ≤ x) ∧ Below w.heap.size w wi
section
variable {w wi w' : World} {b : Nat} {wd nx : Int} {L : List Bl}
theorem FB.bel (h : FB w wi b wd nx L) : Below w.heap.size w wi := by
  obtain ⟨_, _, _, _, _, h⟩ := h
  exact h
theorem FB.below (h : FB w wi b wd nx L) (k : Below wi.heap.size wi w') : FB w w' b wd nx L ∧ Reads wi w' := by
  obtain ⟨r, v, hf, hb, hr, hl⟩ := h
  exact ⟨⟨r, v, hf.below k, hb, hr, hl.trans (k.mono hl.size)⟩, .below k⟩
theorem FB.step {r r' : Option Nat} {v v' : Value} {nx' : Int} {L' : List Bl} (hf : Fl wi b wd nx r v L) (hb : w.heap.size ≤ b) (hr : ∀ x, r = some x → w.heap.size ≤ x) (hl : Below w.heap.size w wi) (hf' : Fl w' b wd nx' r' v' L') (hr' : r' = r ∨ ∃ g, r' = some g ∧ wi.heap.size ≤ g) (t : Tn (FlOwn b r) wi w') : FB w w' b wd nx' L' ∧ Reads wi w' := by
  refine ⟨⟨r', v', hf', hb, fun x hx => ?_, t.below hl hl.size (fun i hi e => ?_)⟩, .turned hf t⟩
  · rcases hr' with rfl | ⟨g, rfl, hg⟩
    · exact hr x hx
    · injection hx with hx
      have := hl.size
      omega
  · rcases e with e | e
    · omega
    · have := hr i e; omega
theorem fbo_new (w wi : World) (base : Int) (n : Nat) (hl : Below w.heap.size w wi) (hb : U32 base) (h0 : 1 ≤ n) (h1 : n ≤ 64) :
    Calls Try.prog 19 #[.int .u32 base, .int .i64 (n : Nat)] wi fun e w' => ∃ b, e = .returned (.tuple #[.pointer (some ⟨b, 0, none⟩), .int .i64 0]) ∧ FB w w' b (n : Nat) base [] := by
  refine (fl_new_any base n wi hb h0 h1).mono ?_
  rintro e w' ⟨rfl, hk, hbel⟩
  exact ⟨_, rfl, none, _, hk, hl.size, (fun _ h => nomatch h), hl.trans (hbel.mono hl.size)⟩
theorem fbo_add (h : FB w wi b wd nx L) (s : ByteArray) (n at_ : Int) (hs : s.toList.isEmpty = false) (h1 : 1 ≤ n) (h2 : n ≤ 255) (ht : timeB at_ = true) (hl : (L.length : Int) < wd) :
    Calls Try.prog 4 #[.pointer (some ⟨b, 0, none⟩), .string s, .int .i64 n, .int .i64 at_] wi fun e w' => e = .returned (.tuple #[.int .u32 nx, .int .i64 0]) ∧ FB w w' b wd ((nx + 1) % 4294967296) (L ++ [⟨s, n, at_⟩]) ∧ Reads wi w' := by
  obtain ⟨r, v, hf, hb, hr, hlo⟩ := h
  refine (add_good b wd nx r v L s n at_ wi hf hs h1 h2 ht hl).mono ?_
  rintro e w' ⟨r', v', rfl, hf', hr', t⟩
  exact ⟨rfl, FB.step hf hb hr hlo hf' hr' t⟩
theorem fbo_full (h : FB w wi b wd nx L) (s : ByteArray) (n at_ : Int) (hs : s.toList.isEmpty = false) (h1 : 1 ≤ n) (h2 : n ≤ 255) (ht : timeB at_ = true) (hl : (L.length : Int) = wd) :
    Calls Try.prog 4 #[.pointer (some ⟨b, 0, none⟩), .string s, .int .i64 n, .int .i64 at_] wi fun e w' => e = .returned (.tuple #[.int .u32 0, .int .i64 9]) ∧ FB w w' b wd nx L ∧ Reads wi w' := by
  have h0 := h
  obtain ⟨r, v, hf, hb, hr, hlo⟩ := h
  refine (add_full b wd nx r v L s n at_ wi hf hs h1 h2 ht hl).mono ?_
  rintro e w' ⟨rfl, k⟩
  exact ⟨rfl, h0.below k⟩
theorem fbo_wants (h : FB w wi b wd nx L) (x : Int) (s : ByteArray) (need : Int) (q : List (Int × Int)) (hq : ∀ y is, BodyIs nx L x y is → wantL x s y.n need = q) (h1 : -9223372036854775808 ≤ need) (h2 : need ≤ 9223372036854775807) :
    Calls Try.prog 7 #[.pointer (some ⟨b, 0, none⟩), .int .u32 x, .string s, .int .i64 need] wi fun e w' => ∃ A c, e = .returned (.slice A q.length c) ∧ Sn w' A q.length q ∧ FB w w' b wd nx L ∧ Reads wi w' := by
  have h0 := h
  obtain ⟨r, v, hf, hb, hr, hlo⟩ := h
  refine (wants_any (some ⟨b, 0, none⟩) nx r v L x s need wi hf.flo h1 h2).mono ?_
  rintro e w' ⟨y, is, hy, A, c, rfl, hs, k⟩
  have e := hq y is hy
  simp only [e] at hs ⊢
  exact ⟨A, c, rfl, hs, h0.below k⟩
theorem fbo_due (h : FB w wi b wd nx L) (now wait : Int) (L' : List Bl) (q : List Int) (hd : dueL nx now wait L = (L', q)) :
    Calls Try.prog 8 #[.pointer (some ⟨b, 0, none⟩), .int .i64 now, .int .i64 wait] wi fun e w' => ∃ A c, e = .returned (.slice A q.length c) ∧ Uw w' A q.length q ∧ FB w w' b wd nx L' ∧ Reads wi w' := by
  obtain ⟨r, v, hf, hb, hr, hlo⟩ := h
  refine (due_any (some ⟨b, 0, none⟩) nx r v L now wait wi hf.flo).mono ?_
  rintro e w' ⟨A, c, rfl, hu, ho, t⟩
  rw [hd] at hu ho ⊢
  rcases ho with ⟨e, _⟩ | ⟨f, wd', e, hf'⟩
  · cases e
  · injection e with e; injection e with e
    subst e
    obtain rfl : wd' = wd := by
      have h1 := hf'.own
      have h2 : At w' b 43 [.int .i64 wd, .int .u32 nx, v] := hf.own.tn t (fun e => hf.ne b e rfl)
      have h3 := h1.cell 0 rfl
      rw [h2.cell 0 rfl] at h3
      injection h3 with h3; injection h3 with _ h3
      exact h3.symm
    exact ⟨A, c, rfl, hu, FB.step hf hb hr hlo hf' (.inl rfl) (t.mono fun i _ e => .inr e)⟩
theorem fbo_ack (h : FB w wi b wd nx L) (x : Int) (hx : U32 x) (K : Nat) (hK : ackN nx L.length x = K) :
    Calls Try.prog 6 #[.pointer (some ⟨b, 0, none⟩), .int .u32 x] wi fun e w' => e = .returned (.int .i64 (K : Nat)) ∧ FB w w' b wd nx (L.drop K) ∧ Reads wi w' := by
  obtain ⟨r, v, hf, hb, hr, hlo⟩ := h
  refine (ack_any b wd nx r v L x wi hf hx).mono ?_
  rintro e w' ⟨v', rfl, hf', t⟩
  rw [hK] at hf' ⊢
  exact ⟨rfl, FB.step hf hb hr hlo hf' (.inl rfl) t⟩
theorem fbo_body (h : FB w wi b wd nx L) (x : Int) (z : Bl) (iz : Bool) (hz : ∀ y is, BodyIs nx L x y is → y = z ∧ is = iz) :
    Calls Try.prog 5 #[.pointer (some ⟨b, 0, none⟩), .int .u32 x] wi fun e w' => e = .returned (.tuple #[.string z.body, .int .i64 z.n, .bool iz]) ∧ FB w w' b wd nx L ∧ Reads wi w' := by
  have h0 := h
  obtain ⟨r, v, hf, hb, hr, hlo⟩ := h
  refine (body_any (some ⟨b, 0, none⟩) nx r v L x wi hf.flo).mono ?_
  rintro e w' ⟨y, is, hy, rfl, k⟩
  obtain ⟨rfl, rfl⟩ := hz y is hy
  exact ⟨rfl, h0.below k⟩
theorem fbo_len (h : FB w wi b wd nx L) : Calls Try.prog 11 #[.pointer (some ⟨b, 0, none⟩)] wi fun e w' => e = .returned (.int .i64 (L.length : Nat)) ∧ wi = w' := by
  obtain ⟨r, v, hf, _⟩ := h
  exact flc_len _ nx v L.length wi hf.c
theorem fbo_next (h : FB w wi b wd nx L) : Calls Try.prog 9 #[.pointer (some ⟨b, 0, none⟩)] wi fun e w' => e = .returned (.int .u32 nx) ∧ wi = w' := by
  obtain ⟨r, v, hf, _⟩ := h
  exact flc_next _ nx v L.length wi hf.c
theorem fbo_base (h : FB w wi b wd nx L) : Calls Try.prog 10 #[.pointer (some ⟨b, 0, none⟩)] wi fun e w' => e = .returned (.int .u32 (fb nx L.length)) ∧ wi = w' := by
  obtain ⟨r, v, hf, _⟩ := h
  exact flc_base _ nx v L.length wi hf.c hf.n64
end

/-! ### the first calls: what they tell -/
abbrev flx : ByteArray := ⟨#[120]⟩
abbrev fly : ByteArray := ⟨#[121]⟩
abbrev flz : ByteArray := ⟨#[122]⟩
theorem fl_due1 : dueL 1 9 3 [⟨flx, 3, 5⟩, ⟨fly, 4, 7⟩] = ([⟨flx, 3, 9⟩, ⟨fly, 4, 7⟩], [4294967295]) := by rfl
theorem fl_due2 : dueL 1 9 3 [⟨flx, 3, 9⟩, ⟨fly, 4, 7⟩] = ([⟨flx, 3, 9⟩, ⟨fly, 4, 7⟩], []) := by rfl
theorem fl_ack1 : ackN 1 2 0 = 1 := by decide
theorem fl_ack2 : ackN 1 1 9 = 0 := by decide
theorem fl_count : cntN (ofS [1]) 256 = 1 := by decide +kernel
theorem fl_missing : misL (ofS [1]) 3 (max 2 0 - (1 : Nat)) = [0] := by decide +kernel
theorem fl_body1 (y : Bl) (is : Bool) (h : BodyIs 1 [⟨flx, 3, 5⟩, ⟨fly, 4, 7⟩] 4294967295 y is) : y = ⟨flx, 3, 5⟩ ∧ is = true := by
  rcases h with ⟨i, hi, he, rfl, rfl⟩ | ⟨h, _⟩
  · have hi2 : i < 2 := hi
    have he' : wpl (fb 1 2) i = 4294967295 := he
    have : i = 0 := by unfold wpl fb at he'; omega
    subst this
    exact ⟨rfl, rfl⟩
  · exact absurd (by decide) (h 0 (by decide))
theorem fl_body2 (y : Bl) (is : Bool) (h : BodyIs 1 [⟨fly, 4, 7⟩] 0 y is) : y = ⟨fly, 4, 7⟩ ∧ is = true := by
  rcases h with ⟨i, hi, he, rfl, rfl⟩ | ⟨h, _⟩
  · have hi2 : i < 1 := hi
    have : i = 0 := by omega
    subst this
    exact ⟨rfl, rfl⟩
  · exact absurd (by decide) (h 0 (by decide))
theorem fl_wants (y : Bl) (is : Bool) (h : BodyIs 1 [⟨flx, 3, 5⟩, ⟨fly, 4, 7⟩] 4294967295 y is) : wantL 4294967295 (ofS [1]) y.n 2 = [(4294967295, 0)] := by
  obtain ⟨rfl, _⟩ := fl_body1 y is h
  unfold wantL
  rw [fl_count]
  show (misL (ofS [1]) 3 (max 2 0 - (1 : Nat))).map _ = _
  rw [fl_missing]
  rfl
end Go.Proofs.Ytgnalabblhokmaa

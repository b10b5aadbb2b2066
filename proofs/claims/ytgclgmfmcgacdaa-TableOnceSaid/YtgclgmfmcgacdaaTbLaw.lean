/- Proved: the calls of package table, spoken of entries without their places. Conditions: those that the theorems name. -/
import Derived.Test.YtgclgmfmcgacdaaTbDropAll
import Derived.Test.YtgclgmfmcgacdaaTbNew
namespace Go.Proofs.Ytgclgmfmcgacdaa
open Go.ChangeShapes Go.WideShapes Go.ChangeAt Go.RowKit Go.MuLone

/-- an entry without its place. -/
structure Fe where
  k : Ky
  need : Nat
  l : List Shd
def En.face (e : En) : Fe := ⟨e.k, e.need, e.l⟩
def Fe.ready (e : Fe) : Bool := decide (e.l.length = e.need)
def Fe.more (e : Fe) (x : Shd) : Fe := ⟨e.k, e.need, insS e.l x⟩
def findF (S : List Fe) (k : Ky) : Option Fe := S.find? fun e => decide (e.k = k)
def getF (S : List Fe) (k : Ky) : List Shd := match findF S k with | some e => e.l | none => []
def oldF (S : List Fe) : Option Fe := S.find? fun e => !e.ready
def oldFK (S : List Fe) : Ky := match oldF S with | some e => e.k | none => (0, 0)
/-- Put's answer, and what is there then. -/
def putF (S : List Fe) (room : Nat) (k : Ky) (need : Int) (x : Shd) : Int × List Fe :=
  if badP need x = true then (5, S) else match findF S k with
  | none => if S.length = room then (2, S) else (if need = 1 then 3 else 0, S ++ [⟨k, need.toNat, [x]⟩])
  | some e => match roleR e.l e.need need x with
    | .wanted _ => (if (e.more x).ready = true then 3 else 0, S.map fun a => if a.k = k then a.more x else a)
    | .known => (1, S)
    | _ => (4, S)
def keepF (S : List Fe) (P : Ky → Bool) : List Fe := S.filter fun e => P e.k
theorem find_face (X : List En) (k : Ky) : findF (X.map En.face) k = (findE X k).map En.face := by
  unfold findF findE
  rw [List.find?_map]
  rfl
theorem get_face (X : List En) (k : Ky) : getF (X.map En.face) k = getL X k := by
  unfold getF getL
  rw [find_face]
  cases findE X k <;> rfl
theorem old_face (X : List En) : oldF (X.map En.face) = (oldE X).map En.face := by
  unfold oldF oldE
  rw [List.find?_map]
  rfl
theorem oldK_face (X : List En) : oldFK (X.map En.face) = oldK X := by
  unfold oldFK oldK
  rw [old_face]
  cases oldE X <;> rfl
theorem keep_face (X : List En) (P : Ky → Bool) : keepF (X.map En.face) P = (keepX X P).map En.face := by
  unfold keepF keepX
  rw [List.filter_map]
  rfl
theorem putN_face (X : List En) (room : Nat) (k : Ky) (need : Int) (x : Shd) : (putF (X.map En.face) room k need x).1 = putN X room k need x := by
  unfold putF putN
  by_cases hb : badP need x = true
  · rw [if_pos hb, if_pos hb]
  · rw [if_neg hb, if_neg hb, find_face]
    cases findE X k with
    | none =>
      simp only [Option.map_none, List.length_map]
      split <;> rfl
    | some e =>
      simp only [Option.map_some]
      show (match roleR e.l e.need need x with | .wanted _ => _ | .known => _ | _ => _ : Int × List Fe).1 = _
      cases roleR e.l e.need need x <;> rfl
theorem putX_face {X X' : List En} {room : Nat} {k : Ky} {need : Int} {x : Shd} (hk : (X.map En.k).Nodup) (h : PutX X room k need x X') : X'.map En.face = (putF (X.map En.face) room k need x).2 := by
  unfold PutX at h
  unfold putF
  by_cases hb : badP need x = true
  · rw [if_pos hb] at h ⊢; rw [h]
  · rw [if_neg hb] at h ⊢
    rw [find_face]
    cases hf : findE X k with
    | none =>
      rw [hf] at h
      simp only [Option.map_none, List.length_map] at h ⊢
      by_cases hr : X.length = room
      · rw [if_pos hr] at h ⊢; rw [h]
      · rw [if_neg hr] at h ⊢
        obtain ⟨p, rfl⟩ := h
        simp [En.face]
    | some e =>
      rw [hf] at h
      simp only [Option.map_some] at h ⊢
      have e2 : (match roleR e.face.l e.face.need need x with | .wanted _ => (if (e.face.more x).ready = true then 3 else 0, (X.map En.face).map fun a => if a.k = k then a.more x else a) | .known => (1, X.map En.face) | _ => (4, X.map En.face) : Int × List Fe) = (match roleR e.l e.need need x with | .wanted _ => (if (e.face.more x).ready = true then 3 else 0, (X.map En.face).map fun a => if a.k = k then a.more x else a) | .known => (1, X.map En.face) | _ => (4, X.map En.face)) := rfl
      rw [e2]
      cases hr : roleR e.l e.need need x with
      | wanted i =>
        rw [hr] at h
        obtain ⟨A, B, rfl, rfl⟩ := h
        obtain ⟨_, hek⟩ := findE_some hf
        subst hek
        simp only [List.map_append, List.map_cons, List.map_map]
        rw [List.map_append, List.map_cons, List.nodup_append, List.nodup_cons] at hk
        congr 1
        · refine List.map_congr_left fun a ha => ?_
          have : a.k ≠ e.k := fun f => hk.2.2 a.k (List.mem_map.2 ⟨a, ha, rfl⟩) e.k (by simp) f
          simp [En.face, this]
        · congr 1
          · simp [En.face, moreE, Fe.more]
          · refine List.map_congr_left fun a ha => ?_
            have : a.k ≠ e.k := fun f => hk.2.1.1 (List.mem_map.2 ⟨a, ha, f⟩)
            simp [En.face, this]
      | first => rw [hr] at h; rw [h]
      | known => rw [hr] at h; rw [h]
      | unlike => rw [hr] at h; rw [h]
/-! ### a table made since w -/
def SB (w wi : World) (L : Ly) (n room : Nat) (S : List Fe) : Prop := ∃ X, Tb wi L n room X ∧ X.map En.face = S ∧ (∀ i, i < w.heap.size → L.col i = -1) ∧ Tn Nil w wi
/-- what is not the table's stays. -/
structure Fr (wi : World) (L : Ly) (w' : World) (L' : Ly) : Prop where
  col : ∀ i, i < wi.heap.size → L'.col i = L.col i
  tn : Tn (Mine L) wi w'
theorem Fr.trans {w1 w2 w3 : World} {L1 L2 L3 : Ly} (h : Fr w1 L1 w2 L2) (k : Fr w2 L2 w3 L3) : Fr w1 L1 w3 L3 :=
  ⟨fun i hi => (k.col i (Nat.lt_of_lt_of_le hi h.tn.size)).trans (h.col i hi), h.tn.trans' k.tn fun i hi e => by unfold Mine at e ⊢; rwa [h.col i hi] at e⟩
theorem Fr.at_ {w1 w2 : World} {L1 L2 : Ly} (h : Fr w1 L1 w2 L2) {b : Nat} {t : TypeId} {xs : List Value} (k : At w1 b t xs) (hc : L1.col b = -1) : At w2 b t xs ∧ L2.col b = -1 :=
  ⟨k.tn h.tn (fun e => e hc), (h.col b k.lt).trans hc⟩
theorem Fr.free {w1 w2 : World} (L : Ly) (h : Tn Nil w1 w2) : Fr w1 L w2 L := ⟨fun _ _ => rfl, h.mono fun _ _ e => e.elim⟩
section
variable {w wi w' : World} {L L' : Ly} {n room : Nat} {S S' : List Fe}
theorem SB.step {X' : List En} (h : SB w wi L n room S) (f : Fr wi L w' L') (t : Tb w' L' n room X') (e : X'.map En.face = S') : SB w w' L' n room S' := by
  obtain ⟨X, _, _, hc, ht⟩ := h
  exact ⟨X', t, e, fun i hi => (f.col i (Nat.lt_of_lt_of_le hi ht.size)).trans (hc i hi), ht.trans' f.tn (fun i hi e => e (hc i hi))⟩
theorem SB.free (h : SB w wi L n room S) (t : Tn Nil wi w') : SB w w' L n room S := by
  obtain ⟨X, hx, e, _, _⟩ := id h
  exact h.step (Fr.free L t) (hx.free t) e
theorem SB.own {c : Nat → Prop} (h : SB w wi L n room S) (t : Tn c wi w') (hc : ∀ g, g < wi.heap.size → c g → L.col g = -1 ∧ szW w ≤ g) : SB w w' L n room S := by
  obtain ⟨X, hx, e, h1, h2⟩ := h
  exact ⟨X, hx.tn t (fun g hg f => (hc g hg f).1), e, h1, h2.trans' t (fun g hg f => absurd hg (by have := hc g (Nat.lt_of_lt_of_le hg h2.size) f; unfold szW at this; omega))⟩
theorem SB.new (h : SB w wi L n room S) : L.col wi.heap.size = -1 := by
  obtain ⟨X, hx, _⟩ := h
  exact hx.st.ahead _ (Nat.le_refl _)
theorem SB.alloc (h : SB w wi L n room S) (o : Obj) : SB w (wi.alloc o) L n room S := h.free ((Tn.refl _ wi).alloc o)
theorem sb_new (n room : Nat) (hn : 1 ≤ n ∧ n ≤ 64) (hr : 1 ≤ room ∧ room ≤ 65536) (h0 : Tn Nil w wi) :
    Calls Try.prog 7 #[.int .i64 n, .int .i64 room] wi fun e w' => ∃ L, e = .returned (.tuple #[ptv L.b, .int .i64 0]) ∧ SB w w' L n room [] ∧ Tn Nil wi w' ∧ ∀ i, i < wi.heap.size → L.col i = -1 := by
  refine (tb_new n room hn hr wi).mono ?_
  rintro e w' ⟨L, rfl, ht, hc, t⟩
  exact ⟨L, rfl, ⟨[], ht, rfl, fun i hi => hc i (Nat.lt_of_lt_of_le hi h0.size), h0.trans t⟩, t, hc⟩
theorem sb_put {k : Ky} (h : SB w wi L n room S) (hk : KyOk k) (need i : Int) (t : ByteArray) {r : Int × List Fe} (hr : putF S room k need (i, t) = r) :
    Calls Try.prog 12 #[ptv L.b, kyV k, .int .i64 need, .agg #[.int .i64 i, .string t]] wi fun e w' => e = .returned (.int .i64 r.1) ∧ ∃ L', L'.b = L.b ∧ SB w w' L' n room r.2 ∧ Fr wi L w' L' := by
  subst hr
  by_cases hb : badP need (i, t) = true
  · refine (put_bad (some L.b) k need (i, t) (.inr hb)).mono ?_
    rintro e w' ⟨rfl, t'⟩
    unfold putF
    rw [if_pos hb]
    exact ⟨rfl, L, rfl, h.free t', Fr.free L t'⟩
  · obtain ⟨X, hx, e, hc, ht⟩ := id h
    have hb' : badP need (i, t) = false := by simpa using hb
    have hb2 := hb'
    unfold badP at hb2
    simp only [Bool.or_eq_false_iff, decide_eq_false_iff_not] at hb2
    obtain ⟨nd, rfl⟩ : ∃ nd : Nat, need = nd := ⟨need.toNat, by omega⟩
    obtain ⟨j, rfl⟩ : ∃ j : Nat, i = j := ⟨i.toNat, by omega⟩
    refine (tb_put hx hk nd j t hb').mono ?_
    rintro e' w' ⟨rfl, ⟨L', X', hl, hp, hx'⟩, t'⟩
    subst e
    refine ⟨by rw [putN_face], L', hl.b, ?_, ⟨hl.col, t'⟩⟩
    exact h.step ⟨hl.col, t'⟩ hx' (putX_face hx.wf.kn hp)
theorem sb_get {k : Ky} (h : SB w wi L n room S) (hk : KyOk k) {l : List Shd} {b : Bool} (hl : getF S k = l) (hb : (findF S k).isSome = b) :
    Calls Try.prog 13 #[ptv L.b, kyV k] wi fun e w' => GivesG wi l b e w' ∧ SB w w' L n room S ∧ Fr wi L w' L := by
  subst hl; subst hb
  obtain ⟨X, hx, e, hc, ht⟩ := id h
  subst e
  refine (tb_get hx hk).mono ?_
  rintro e w' ⟨hg, hx', t'⟩
  rw [get_face, find_face, Option.isSome_map]
  exact ⟨hg, h.step ⟨fun _ _ => rfl, t'⟩ hx' rfl, ⟨fun _ _ => rfl, t'⟩⟩
theorem sb_take {k : Ky} (h : SB w wi L n room S) (hk : KyOk k) {l : List Shd} {b : Bool} (hl : getF S k = l) (hb : (findF S k).isSome = b) (hs : keepF S (butK k) = S') :
    Calls Try.prog 14 #[ptv L.b, kyV k] wi fun e w' => GivesG wi l b e w' ∧ SB w w' L n room S' ∧ Fr wi L w' L := by
  subst hl; subst hb; subst hs
  obtain ⟨X, hx, e, hc, ht⟩ := id h
  subst e
  refine (tb_take hx hk).mono ?_
  rintro e w' ⟨hg, hx', t'⟩
  rw [get_face, find_face, Option.isSome_map]
  exact ⟨hg, h.step ⟨fun _ _ => rfl, t'⟩ hx' (keep_face ..).symm, ⟨fun _ _ => rfl, t'⟩⟩
theorem sb_drop {s : Int} (h : SB w wi L n room S) {m : Nat} (hm : (S.filter fun e => decide (e.k.1 = s)).length = m) (hs : keepF S (fun k => !decide (k.1 = s)) = S') :
    Calls Try.prog 15 #[ptv L.b, .int .i64 s] wi fun e w' => e = .returned (.int .i64 (m : Nat)) ∧ SB w w' L n room S' ∧ Fr wi L w' L := by
  subst hm; subst hs
  obtain ⟨X, hx, e, hc, ht⟩ := id h
  subst e
  refine (tb_drop hx).mono ?_
  rintro e w' ⟨rfl, hx', t'⟩
  rw [List.filter_map, List.length_map]
  exact ⟨rfl, h.step ⟨fun _ _ => rfl, t'⟩ hx' (keep_face ..).symm, ⟨fun _ _ => rfl, t'⟩⟩
theorem sb_oldest (h : SB w wi L n room S) {k : Ky} {b : Bool} (hk : oldFK S = k) (hb : (oldF S).isSome = b) :
    Calls Try.prog 9 #[ptv L.b] wi fun e w' => e = .returned (.tuple #[kyV k, .bool b]) ∧ SB w w' L n room S ∧ Fr wi L w' L := by
  subst hk; subst hb
  obtain ⟨X, hx, e, hc, ht⟩ := id h
  subst e
  refine (tb_oldest hx).mono ?_
  rintro e w' ⟨rfl, hx', t'⟩
  rw [oldK_face, old_face, Option.isSome_map]
  exact ⟨rfl, h.step ⟨fun _ _ => rfl, t'⟩ hx' rfl, ⟨fun _ _ => rfl, t'⟩⟩
theorem sb_len (h : SB w wi L n room S) {m : Nat} (hm : S.length = m) :
    Calls Try.prog 11 #[ptv L.b] wi fun e w' => e = .returned (.int .i64 (m : Nat)) ∧ SB w w' L n room S ∧ Fr wi L w' L := by
  subst hm
  obtain ⟨X, hx, e, hc, ht⟩ := id h
  subst e
  refine (tb_len hx).mono ?_
  rintro e w' ⟨rfl, hx', t'⟩
  rw [List.length_map]
  exact ⟨rfl, h.step ⟨fun _ _ => rfl, t'⟩ hx' rfl, ⟨fun _ _ => rfl, t'⟩⟩
end
end Go.Proofs.Ytgclgmfmcgacdaa

/- Proved: lemmas of one statement's proof, merged by program: what each part proves stands ahead of it. Conditions: those that the lemmas name. -/
import Derived.Test.YtmnbkghihdbepaaM24
import Derived.Test.YtmnbkghihdbepaaM5
import Derived.Deep.DeepCutAuto

/- Proved: the calls of package control, spoken of datagrams without their places. Conditions: those that the theorems name. -/
namespace Go.Proofs.Ytmnbkghihdbepaa
open Go.ChangeShapes Go.WideShapes Go.ChangeAt Go.RowKit

def faces (X : List Pd) : List Dg := X.map (·.2)
/-- does one speak of what another one speaks of? -/
def likeB (a d : Dg) : Bool := decide (subj a = subj d)
/-- what there is behind Ask. -/
def askS (S : List Dg) (d : Dg) : List Dg := if refE d ≠ 0 then S else if S.any (likeB · d) = true then S.map fun a => if likeB a d = true then d else a else S ++ [d]
def keepS (u : Dg → Bool) (S : List Dg) : List Dg := S.filter fun d => !u d
theorem faces_len (X : List Pd) : (faces X).length = X.length := List.length_map ..
theorem faces_keep (u : Dg → Bool) (X : List Pd) : faces (keepX u X) = keepS u (faces X) := by
  unfold faces keepX keepS
  rw [List.filter_map]
  rfl
theorem any_of_none {X : List Pd} {d : Dg} (h : ptOf X (subj d) = none) : (faces X).any (likeB · d) = false := by
  rw [Bool.eq_false_iff]
  intro e
  rw [List.any_eq_true] at e
  obtain ⟨a, ha, hl⟩ := e
  obtain ⟨x, hx, rfl⟩ := List.mem_map.1 ha
  exact ptOf_none_iff.1 h x hx (of_decide_eq_true hl)
theorem any_of_mid {A B : List Pd} {p : Nat} {d0 d : Dg} (h : subj d = subj d0) : (faces (A ++ (p, d0) :: B)).any (likeB · d) = true := by
  rw [List.any_eq_true]
  refine ⟨d0, List.mem_map.2 ⟨(p, d0), by simp, rfl⟩, ?_⟩
  simp [likeB, h]
theorem faces_turn {A B : List Pd} {p : Nat} {d0 d : Dg} (hk : (subjs (A ++ (p, d0) :: B)).Nodup) (h : subj d = subj d0) : faces (A ++ (p, d) :: B) = (faces (A ++ (p, d0) :: B)).map fun a => if likeB a d = true then d else a := by
  unfold subjs at hk
  rw [List.map_append, List.map_cons, List.nodup_append, List.nodup_cons] at hk
  have hA : ∀ C : List Pd, (∀ x ∈ C, subj x.2 ≠ subj d) → (faces C).map (fun a => if likeB a d = true then d else a) = faces C := fun C hC => by
    unfold faces
    rw [List.map_map]
    refine List.map_congr_left fun x hx => ?_
    have := hC x hx
    simp [likeB, this]
  have e : faces (A ++ (p, d0) :: B) = faces A ++ d0 :: faces B := by simp [faces]
  have e2 : faces (A ++ (p, d) :: B) = faces A ++ d :: faces B := by simp [faces]
  rw [e, e2, List.map_append, List.map_cons, hA A, hA B]
  · simp [likeB, h]
  · intro x hx q
    exact hk.2.1.1 (List.mem_map.2 ⟨x, hx, by rw [q, h]⟩)
  · intro x hx q
    exact hk.2.2 (subj x.2) (List.mem_map.2 ⟨x, hx, rfl⟩) (subj d0) (by simp) (by rw [q, h])
theorem askS_len (S : List Dg) (d : Dg) : (askS S d).length ≤ S.length + 1 := by
  unfold askS
  split
  · omega
  · split
    · rw [List.length_map]; omega
    · rw [List.length_append]; exact Nat.le_refl _
theorem keepS_len (u : Dg → Bool) (S : List Dg) : (keepS u S).length ≤ S.length := List.length_filter_le _ _

/-! ### what was made since w -/
def CB (w wi : World) (L : Ly) (S : List Dg) : Prop := ∃ X, Ct wi L X ∧ faces X = S ∧ (∀ i, i < w.heap.size → ¬ L.own i) ∧ Tn Nil w wi
/-- what is not its own stays. -/
structure Fr (wi : World) (L : Ly) (w' : World) (L' : Ly) : Prop where
  b : L'.b = L.b
  own : ∀ i, i < wi.heap.size → (L'.own i ↔ L.own i)
  tn : Tn L.own wi w'
theorem Fr.free {w1 w2 : World} (L : Ly) (h : Tn Nil w1 w2) : Fr w1 L w2 L := ⟨rfl, fun _ _ => Iff.rfl, h.mono fun _ _ e => e.elim⟩
theorem Fr.at_ {w1 w2 : World} {L1 L2 : Ly} (h : Fr w1 L1 w2 L2) {b : Nat} {t : TypeId} {xs : List Value} (k : At w1 b t xs) (hc : ¬ L1.own b) : At w2 b t xs ∧ ¬ L2.own b :=
  ⟨k.tn h.tn hc, fun e => hc ((h.own b k.lt).1 e)⟩
theorem Fr.cl {w1 w2 : World} {L1 L2 : Ly} (h : Fr w1 L1 w2 L2) {A : Option Addr} {xs : List Value} (k : Cl w1 (fun g => ¬ L1.own g) A xs) : Cl w2 (fun g => ¬ L2.own g) A xs := fun h0 => by
  obtain ⟨g, o, e, hc, hl, hx⟩ := k h0
  refine ⟨g, o, e, fun q => hc ((h.own g hl).1 q), Nat.lt_of_lt_of_le hl h.tn.size, fun j u hj => ?_⟩
  rw [← hx j u hj]
  exact World.cell?_of_block (a := ⟨g, o + j, none⟩) (h.tn.block _ hl hc)
section
variable {w wi w' : World} {L L' : Ly} {S S' : List Dg}
theorem CB.bel (h : CB w wi L S) : Below w.heap.size w wi := by
  obtain ⟨X, _, _, _, t⟩ := h
  exact ⟨t.os, t.tape, t.output, t.size, fun i hi => t.block i hi (fun e => e)⟩
theorem CB.free (h : CB w wi L S) (t : Tn Nil wi w') : CB w w' L S := by
  obtain ⟨X, hx, e, ho, ht⟩ := h
  exact ⟨X, hx.free t, e, ho, ht.trans t⟩
theorem CB.below (h : CB w wi L S) (k : Below wi.heap.size wi w') : CB w w' L S := h.free (tn_below _ k)
/-- a store into a box that is not its own. -/
theorem CB.far {c : Nat → Prop} (h : CB w wi L S) (t : Tn c wi w') (hc : ∀ g, c g → ¬ L.own g) (hw : ∀ g, c g → w.heap.size ≤ g) : CB w w' L S := by
  obtain ⟨X, hx, e, ho, ht⟩ := h
  exact ⟨X, hx.far t hc, e, ho, ht.trans' t (fun i hi e => by have := hw i e; omega)⟩
theorem CB.ahead (h : CB w wi L S) : ∀ i, wi.heap.size ≤ i → ¬ L.own i := by
  obtain ⟨X, hx, _⟩ := h
  exact hx.ahead
theorem CB.low (h : CB w wi L S) : ∀ i, i < w.heap.size → ¬ L.own i := by
  obtain ⟨X, _, _, ho, _⟩ := h
  exact ho
theorem CB.ok (h : CB w wi L S) : ∀ d ∈ S, DOk d := by
  obtain ⟨X, hx, rfl, _⟩ := h
  intro d hd
  obtain ⟨x, hm, rfl⟩ := List.mem_map.1 hd
  exact hx.ok x hm
theorem cb_new (w wi : World) (t : Tn Nil w wi) : Calls Try.prog 6 #[] wi fun e w' => ∃ L, e = .returned (ptv L.b) ∧ CB w w' L [] ∧ (∀ i, i < wi.heap.size → ¬ L.own i) ∧ Below wi.heap.size wi w' := by
  refine (ct_new wi).mono ?_
  rintro e w' ⟨L, rfl, h, ho, b⟩
  exact ⟨L, rfl, ⟨[], h, rfl, fun i hi => ho i (Nat.lt_of_lt_of_le hi t.size), t.trans (tn_below _ b)⟩, ho, b⟩
theorem cb_len (h : CB w wi L S) : Calls Try.prog 14 #[ptv L.b] wi fun e w' => e = .returned (.int .i64 (S.length : Nat)) ∧ wi = w' := by
  obtain ⟨X, hx, rfl, _, _⟩ := h
  rw [faces_len]
  exact ct_len hx
theorem CB.step {X' : List Pd} (h : CB w wi L S) (f : Fr wi L w' L') (k : Ct w' L' X') (e : faces X' = S') : CB w w' L' S' := by
  obtain ⟨X, hx, _, ho, ht⟩ := h
  exact ⟨X', k, e, fun i hi q => ho i hi ((f.own i (Nat.lt_of_lt_of_le hi ht.size)).1 q), ht.trans' f.tn (fun i hi q => ho i hi q)⟩
theorem cb_ask (h : CB w wi L S) (hS : S.length ≤ 60000) {d : Dg} (hd : d.In) :
    Calls Try.prog 8 #[ptv L.b, d.val] wi fun e w' => e = .returned (.int .i64 (refE d)) ∧ ∃ L', CB w w' L' (askS S d) ∧ Fr wi L w' L' := by
  obtain ⟨X, hx, hf, ho, ht⟩ := id h
  subst hf
  rw [faces_len] at hS
  by_cases hr : refE d = 0
  · rw [hr]
    unfold askS
    rw [if_neg (by simpa using hr)]
    cases hp : ptOf X (subj d) with
    | none =>
      rw [if_neg (by rw [any_of_none hp]; decide)]
      refine (ct_ask_new hx hS hd.2.2 hd.1 hr hp).mono ?_
      rintro e w' ⟨rfl, p, h1, t⟩
      have f : Fr wi L w' (L.upto wi w') := ⟨rfl, fun i hi => ⟨fun q => by
        rcases q with q | q
        · exact q
        · exact absurd q.1 (Nat.not_le.2 hi), fun q => .inl q⟩, t⟩
      exact ⟨rfl, _, h.step f h1 (by simp [faces]), f⟩
    | some p =>
      refine (ct_ask_old hx hd.2.2 hd.1 hr hp).mono ?_
      rintro e w' ⟨rfl, A, B, d0, rfl, hs, h1, t⟩
      rw [if_pos (any_of_mid hs)]
      have f : Fr wi L w' L := ⟨rfl, fun _ _ => Iff.rfl, t⟩
      exact ⟨rfl, _, h.step f h1 (faces_turn hx.ks hs), f⟩
  · have e : askS (faces X) d = faces X := if_pos hr
    rw [e]
    refine (ct_ask_bad d hd.2.2 rfl hr).mono ?_
    rintro e w' ⟨rfl, b⟩
    exact ⟨rfl, L, h.below b, Fr.free L (tn_below _ b)⟩
theorem cb_next_none (h : CB w wi L []) : Calls Try.prog 9 #[ptv L.b] wi fun e w' => e = .returned (.tuple #[dgZ.val, .bool false]) ∧ Below wi.heap.size wi w' := by
  obtain ⟨X, hx, hf, _, _⟩ := h
  have : X = [] := List.map_eq_nil_iff.1 hf
  subst this
  exact ct_next_none hx
theorem cb_next {x : Dg} (h : CB w wi L (x :: S)) (hS : S.length ≤ 60000) : Calls Try.prog 9 #[ptv L.b] wi fun e w' => e = .returned (.tuple #[x.val, .bool true]) ∧ CB w w' L S ∧ Fr wi L w' L := by
  obtain ⟨X, hx, hf, _, _⟩ := id h
  cases X with
  | nil => cases hf
  | cons y X =>
    have h1 : y.2 = x := (List.cons.inj hf).1
    have h2 : faces X = S := (List.cons.inj hf).2
    subst h1; subst h2
    rw [faces_len] at hS
    refine (ct_next_some hx hS).mono ?_
    rintro e w' ⟨rfl, k, t⟩
    have f : Fr wi L w' L := ⟨rfl, fun _ _ => Iff.rfl, t⟩
    exact ⟨rfl, h.step f k rfl, f⟩
theorem cb_drop (h : CB w wi L S) (hS : S.length ≤ 60000) (s : Int) : Calls Try.prog 13 #[ptv L.b, .int .i64 s] wi fun e w' => e = .returned (.int .i64 ((S.length - (keepS (dropU s) S).length : Nat) : Int)) ∧ CB w w' L (keepS (dropU s) S) ∧ Fr wi L w' L := by
  obtain ⟨X, hx, hf, _, _⟩ := id h
  subst hf
  rw [← faces_keep, faces_len, faces_len]
  rw [faces_len] at hS
  refine (ct_drop hx hS s).mono ?_
  rintro e w' ⟨rfl, k, t⟩
  have f : Fr wi L w' L := ⟨rfl, fun _ _ => Iff.rfl, t⟩
  exact ⟨rfl, h.step f k rfl, f⟩
theorem cb_clean (h : CB w wi L S) (hS : S.length ≤ 60000) (s base : Int) (hb : U32 base) : Calls Try.prog 11 #[ptv L.b, .int .i64 s, .int .u32 base] wi fun e w' => e = .returned (.int .i64 ((S.length - (keepS (cleanU s base) S).length : Nat) : Int)) ∧ CB w w' L (keepS (cleanU s base) S) ∧ Fr wi L w' L := by
  obtain ⟨X, hx, hf, _, _⟩ := id h
  subst hf
  rw [← faces_keep, faces_len, faces_len]
  rw [faces_len] at hS
  refine (ct_clean hx hS s base hb).mono ?_
  rintro e w' ⟨rfl, k, t⟩
  have f : Fr wi L w' L := ⟨rfl, fun _ _ => Iff.rfl, t⟩
  exact ⟨rfl, h.step f k rfl, f⟩
end
end Go.Proofs.Ytmnbkghihdbepaa

/- Proved: what ack and awake of the law package of stage 25 answer, and the document's Empty. Conditions: those that the theorems name. -/
namespace Go.Proofs.Ytmnbkghihdbepaa
open Go.ChangeShapes Go.WideShapes Go.ChangeAt Go.RowKit

/-- an Ack. -/
def ackD (s : Int) (n : Nat) : Dg := ⟨4, s, n, 0, 0, 0, 0, 3, ⟨#[]⟩, ⟨#[]⟩⟩
theorem ack_any (s : Int) (n : Nat) (w : World) : Calls Try.prog 15 #[.int .i64 s, .int .u32 n] w fun e w' => e = .returned (.agg #[.int .i64 4, .int .i64 s, .int .u32 n, .int .i64 0, .int .i64 0, .int .i64 0, .int .i64 0, .int .i64 3, .string ⟨#[]⟩, .string ⟨#[]⟩]) ∧ Below w.heap.size w w' := by
  go_enter Try.func15, Try.ntmps15
  go_wp2_with fail
  exact bodyPost_ret (v := .agg #[.int .i64 4, .int .i64 s, .int .u32 n, .int .i64 0, .int .i64 0, .int .i64 0, .int .i64 0, .int .i64 3, .string ⟨#[]⟩, .string ⟨#[]⟩]) (by simp [results, Try.results15, go_sem]) rfl ⟨rfl, (Below.refl _ _).alloc (Nat.le_refl _) _⟩
def hav0 : ByteArray := tx (List.replicate 32 0)
set_option maxHeartbeats 400000 in
theorem rempty_any (w : World) : Calls Try.prog 16 #[] w fun e w' => e = .returned (.string hav0) ∧ Below w.heap.size w w' := by
  have ho := own_new w 32
  have hcv := convert_back (w.alloc (.cells (madeCells #[.int .u8 0] 32) 5)) (some ⟨w.heap.size, 0, none⟩) 32 32 _ ho.bs (by decide)
  have hmk : (Instr.makeSlice 60 (.int .i64 32) (.int .i64 32)).run Try.prog w = .ok (.slice (some ⟨w.heap.size, 0, none⟩) 32 32) (w.alloc (.cells (madeCells #[.int .u8 0] 32) 5)) := by kernel_rfl
  have HB := Lib.hid ((Below.refl w.heap.size w).alloc (Nat.le_refl _) (.cells (madeCells #[.int .u8 0] 32) 5))
  clear ho
  generalize w.alloc (.cells (madeCells #[.int .u8 0] 32) 5) = w1 at *
  go_enter Try.func16, Try.ntmps16
  go_wp2_with fail
  go_ret
  exact ⟨rfl, HB.out⟩

/-! ### what there is, and boxes that are not its own -/
def CK (w wi : World) (b : Nat) (S : List Dg) (K : List Pd) : Prop := ∃ L, L.b = b ∧ CB w wi L S ∧ ∀ k ∈ K, At wi k.1 29 k.2.cells ∧ ¬ L.own k.1
section
variable {w wi w' : World} {b : Nat} {S : List Dg} {K : List Pd}
theorem CK.below (h : CK w wi b S K) (k : Below wi.heap.size wi w') : CK w w' b S K := by
  obtain ⟨L, hb, hc, hk⟩ := h
  exact ⟨L, hb, hc.below k, fun x hx => ⟨(hk x hx).1.below k (hk x hx).1.lt, (hk x hx).2⟩⟩
theorem CK.box (h : CK w wi b S K) {d : Dg} (k : Below wi.heap.size wi w') (a : At w' wi.heap.size 29 d.cells) : CK w w' b S ((wi.heap.size, d) :: K) := by
  obtain ⟨L, hb, hc, hk⟩ := h
  refine ⟨L, hb, hc.below k, fun x hx => ?_⟩
  rcases List.mem_cons.1 hx with rfl | hx
  · exact ⟨a, hc.ahead _ (Nat.le_refl _)⟩
  · exact ⟨(hk x hx).1.below k (hk x hx).1.lt, (hk x hx).2⟩
theorem CK.bel (h : CK w wi b S K) : Below w.heap.size w wi := by
  obtain ⟨L, hb, hc, hk⟩ := h
  exact hc.bel
theorem ck_ask (h : CK w wi b S K) (hS : S.length ≤ 60000) (d : Dg) (hd : d.In) {z : Int} (hz : refE d = z) {S' : List Dg} (hs : askS S d = S') :
    Calls Try.prog 8 #[ptv b, d.val] wi fun e w' => e = .returned (.int .i64 z) ∧ CK w w' b S' K := by
  obtain ⟨L, rfl, hc, hk⟩ := h
  subst hz; subst hs
  refine (cb_ask hc hS hd).mono ?_
  rintro e w' ⟨rfl, L', h1, f⟩
  exact ⟨rfl, L', f.b, h1, fun x hx => f.at_ (hk x hx).1 (hk x hx).2⟩
theorem ck_next {x : Dg} (h : CK w wi b (x :: S) K) (hS : S.length ≤ 60000) : Calls Try.prog 9 #[ptv b] wi fun e w' => e = .returned (.tuple #[x.val, .bool true]) ∧ CK w w' b S K := by
  obtain ⟨L, rfl, hc, hk⟩ := h
  refine (cb_next hc hS).mono ?_
  rintro e w' ⟨rfl, h1, f⟩
  exact ⟨rfl, L, rfl, h1, fun x hx => f.at_ (hk x hx).1 (hk x hx).2⟩
theorem ck_next_none (h : CK w wi b [] K) : Calls Try.prog 9 #[ptv b] wi fun e w' => e = .returned (.tuple #[dgZ.val, .bool false]) ∧ CK w w' b [] K := by
  obtain ⟨L, rfl, hc, hk⟩ := id h
  refine (cb_next_none hc).mono ?_
  rintro e w' ⟨rfl, k⟩
  exact ⟨rfl, h.below k⟩
theorem ck_drop (h : CK w wi b S K) (hS : S.length ≤ 60000) (s : Int) {z : Nat} (hz : S.length - (keepS (dropU s) S).length = z) {S' : List Dg} (hs : keepS (dropU s) S = S') : Calls Try.prog 13 #[ptv b, .int .i64 s] wi fun e w' => e = .returned (.int .i64 (z : Nat)) ∧ CK w w' b S' K := by
  obtain ⟨L, rfl, hc, hk⟩ := h
  subst hz; subst hs
  refine (cb_drop hc hS s).mono ?_
  rintro e w' ⟨rfl, h1, f⟩
  exact ⟨rfl, L, rfl, h1, fun x hx => f.at_ (hk x hx).1 (hk x hx).2⟩
theorem ck_len (h : CK w wi b S K) : Calls Try.prog 14 #[ptv b] wi fun e w' => e = .returned (.int .i64 (S.length : Nat)) ∧ wi = w' := by
  obtain ⟨L, rfl, hc, hk⟩ := h
  exact cb_len hc
end
/-- a datagram that fits in memory. -/
theorem ackD_in (s : Int) (n : Nat) (h : n < 4294967296) : (ackD s n).In := ⟨h, Nat.zero_le _, Nat.zero_le _⟩
def nackD : Dg := ⟨3, 1, 0, 0, 0, 0, 0, 0, hav0, ⟨#[]⟩⟩
def dataD : Dg := ⟨1, 1, 0, 0, 1, 1, 1, 0, ⟨#[]⟩, ⟨#[120]⟩⟩
theorem nackD_in : nackD.In := ⟨by decide, by decide +kernel, by decide⟩
theorem dataD_in : dataD.In := ⟨by decide, by decide, by decide⟩
theorem aw_r1 : refE (ackD 1 5) = 0 := by decide +kernel
theorem aw_r2 : refE (ackD 2 0) = 0 := by decide +kernel
theorem aw_r3 : refE (ackD 1 6) = 0 := by decide +kernel
theorem aw_r4 : refE nackD = 0 := by decide +kernel
theorem aw_r5 : refE dataD = 1 := by decide +kernel
theorem askS_bad {S : List Dg} {d : Dg} (h : refE d ≠ 0) : askS S d = S := if_pos h
theorem askS_no {S : List Dg} {d : Dg} (h : refE d = 0) (g : S.any (likeB · d) = false) : askS S d = S ++ [d] := by
  unfold askS
  rw [if_neg (by simpa using h), if_neg (by rw [g]; decide)]
theorem askS_yes {S : List Dg} {d : Dg} (h : refE d = 0) (g : S.any (likeB · d) = true) : askS S d = S.map fun a => if likeB a d = true then d else a := by
  unfold askS
  rw [if_neg (by simpa using h), if_pos g]
theorem aw_s1 : askS [] (ackD 1 5) = [ackD 1 5] := askS_no aw_r1 rfl
theorem aw_s2 : askS [ackD 1 5] (ackD 2 0) = [ackD 1 5, ackD 2 0] := askS_no aw_r2 (by decide +kernel)
theorem aw_s3 : askS [ackD 1 5, ackD 2 0] (ackD 1 6) = [ackD 1 6, ackD 2 0] := by
  rw [askS_yes aw_r3 (by decide +kernel), List.map_cons, List.map_cons, List.map_nil, if_pos (by decide +kernel), if_neg (by decide +kernel)]
theorem aw_s4 : askS [ackD 1 6, ackD 2 0] nackD = [ackD 1 6, ackD 2 0, nackD] := askS_no aw_r4 (by decide +kernel)
theorem aw_s5 : askS [ackD 1 6, ackD 2 0, nackD] dataD = [ackD 1 6, ackD 2 0, nackD] := askS_bad (by rw [aw_r5]; decide)
theorem aw_s6 : keepS (dropU 1) [ackD 2 0, nackD] = [ackD 2 0] := by
  unfold keepS
  rw [List.filter_cons_of_pos (by decide +kernel), List.filter_cons_of_neg (by decide +kernel), List.filter_nil]
theorem aw_s7 : ([ackD 2 0, nackD].length - (keepS (dropU 1) [ackD 2 0, nackD]).length) = 1 := by rw [aw_s6]; rfl
set_option maxRecDepth 100000 in
set_option maxHeartbeats 6400000 in
theorem ct_awake_any (w : World) : Calls Try.prog 5 #[] w fun e w' => e = .returned (.bool true) ∧ Below w.heap.size w w' := by
  have he1 : ∀ W : World, (binOp .eql 29 (.agg #[.int .i64 4, .int .i64 1, .int .u32 6, .int .i64 0, .int .i64 0, .int .i64 0, .int .i64 0, .int .i64 3, .string ⟨#[]⟩, .string ⟨#[]⟩]) (.agg #[.int .i64 4, .int .i64 1, .int .u32 6, .int .i64 0, .int .i64 0, .int .i64 0, .int .i64 0, .int .i64 3, .string ⟨#[]⟩, .string ⟨#[]⟩])).run Try.prog W = .ok (.bool true) W := fun W => by
    have := eq_dg (ackD 1 6) (ackD 1 6) W
    rw [eqB_refl] at this
    exact this
  have he2 : ∀ W : World, (binOp .eql 29 (.agg #[.int .i64 4, .int .i64 2, .int .u32 0, .int .i64 0, .int .i64 0, .int .i64 0, .int .i64 0, .int .i64 3, .string ⟨#[]⟩, .string ⟨#[]⟩]) (.agg #[.int .i64 4, .int .i64 2, .int .u32 0, .int .i64 0, .int .i64 0, .int .i64 0, .int .i64 0, .int .i64 3, .string ⟨#[]⟩, .string ⟨#[]⟩])).run Try.prog W = .ok (.bool true) W := fun W => by
    have := eq_dg (ackD 2 0) (ackD 2 0) W
    rw [eqB_refl] at this
    exact this
  have HE1 := Lib.hid he1
  have HE2 := Lib.hid he2
  clear he1 he2
  go_enter Try.func5, Try.ntmps5
  go_wp2_with fail
  refine (cb_new w w (Tn.refl _ _)).mono ?_; rintro e w1 ⟨L, rfl, h1, _, _⟩
  have H1 : Hid (CK w w1 L.b [] []) := Lib.hid ⟨L, rfl, h1, fun x hx => by simp at hx⟩
  clear h1
  generalize L.b = b at *
  go_wp2_with fail
  refine (ack_any 1 5 _).mono ?_; rintro e w2 ⟨rfl, g2⟩
  have H2 := Lib.hid (H1.out.below g2)
  clear g2 H1
  go_wp2_with fail
  refine (ck_ask H2.out (by decide) (ackD 1 5) (ackD_in 1 5 (by decide)) aw_r1 aw_s1).mono ?_; rintro e w3 ⟨rfl, h3⟩
  have H3 := Lib.hid h3
  clear h3 H2
  go_wp2_with fail
  refine (ack_any 2 0 _).mono ?_; rintro e w4 ⟨rfl, g4⟩
  have H4 := Lib.hid (H3.out.below g4)
  clear g4 H3
  go_wp2_with fail
  refine (ck_ask H4.out (by decide) (ackD 2 0) (ackD_in 2 0 (by decide)) aw_r2 aw_s2).mono ?_; rintro e w5 ⟨rfl, h5⟩
  have H5 := Lib.hid h5
  clear h5 H4
  go_wp2_with fail
  refine (ack_any 1 6 _).mono ?_; rintro e w6 ⟨rfl, g6⟩
  have H6 := Lib.hid (H5.out.below g6)
  clear g6 H5
  go_wp2_with fail
  refine (ck_ask H6.out (by decide) (ackD 1 6) (ackD_in 1 6 (by decide)) aw_r3 aw_s3).mono ?_; rintro e w7 ⟨rfl, h7⟩
  have H7 := Lib.hid h7
  clear h7 H6
  go_wp2_with fail
  refine (rempty_any _).mono ?_; rintro e w8 ⟨rfl, g8⟩
  have H8 := Lib.hid (H7.out.below g8)
  clear g8 H7
  go_wp2_with fail
  refine (ck_ask H8.out (by decide) nackD nackD_in aw_r4 aw_s4).mono ?_; rintro e w9 ⟨rfl, h9⟩
  have H9 := Lib.hid h9
  clear h9 H8
  go_wp2_with fail
  refine (ck_ask H9.out (by decide) dataD dataD_in aw_r5 aw_s5).mono ?_; rintro e w10 ⟨rfl, h10⟩
  have H10 := Lib.hid h10
  clear h10 H9
  go_wp2_with fail
  refine (ck_len H10.out).mono ?_; rintro e w11 ⟨rfl, rfl⟩
  rw [show (([ackD 1 6, ackD 2 0, nackD].length : Nat) : Int) = 3 from rfl]
  go_wp2_with fail
  refine (ck_next H10.out (by decide)).mono ?_; rintro e w12 ⟨rfl, h12⟩
  have al : Below w12.heap.size w12 (w12.alloc (.cells #[.int .i64 4, .int .i64 1, .int .u32 6, .int .i64 0, .int .i64 0, .int .i64 0, .int .i64 0, .int .i64 3, .string ⟨#[]⟩, .string ⟨#[]⟩] 29)) := (Below.refl _ _).alloc (Nat.le_refl _) _
  have H13 : Hid (CK w (w12.alloc (.cells #[.int .i64 4, .int .i64 1, .int .u32 6, .int .i64 0, .int .i64 0, .int .i64 0, .int .i64 0, .int .i64 3, .string ⟨#[]⟩, .string ⟨#[]⟩] 29)) b [ackD 2 0, nackD] [(w12.heap.size, ackD 1 6)]) := Lib.hid (h12.box al (At.new w12 29 (ackD 1 6).cells))
  clear h12 al H10
  rw [show (ackD 1 6).val = (.agg #[.int .i64 4, .int .i64 1, .int .u32 6, .int .i64 0, .int .i64 0, .int .i64 0, .int .i64 0, .int .i64 3, .string ⟨#[]⟩, .string ⟨#[]⟩]) from rfl]
  go_upto_region 10 with fail
  generalize w12.alloc (.cells #[.int .i64 4, .int .i64 1, .int .u32 6, .int .i64 0, .int .i64 0, .int .i64 0, .int .i64 0, .int .i64 3, .string ⟨#[]⟩, .string ⟨#[]⟩] 29) = w13 at *
  generalize w12.heap.size = x1 at *
  go_wp2_with fail
  refine (ck_drop H13.out (by decide) 1 aw_s7 aw_s6).mono ?_; rintro e w14 ⟨rfl, h14⟩
  have H14 := Lib.hid h14
  clear h14 H13
  go_wp2_with fail
  refine (ck_next H14.out (by decide)).mono ?_; rintro e w15 ⟨rfl, h15⟩
  have al : Below w15.heap.size w15 (w15.alloc (.cells #[.int .i64 4, .int .i64 2, .int .u32 0, .int .i64 0, .int .i64 0, .int .i64 0, .int .i64 0, .int .i64 3, .string ⟨#[]⟩, .string ⟨#[]⟩] 29)) := (Below.refl _ _).alloc (Nat.le_refl _) _
  have H16 : Hid (CK w (w15.alloc (.cells #[.int .i64 4, .int .i64 2, .int .u32 0, .int .i64 0, .int .i64 0, .int .i64 0, .int .i64 0, .int .i64 3, .string ⟨#[]⟩, .string ⟨#[]⟩] 29)) b [] [(w15.heap.size, ackD 2 0), (x1, ackD 1 6)]) := Lib.hid (h15.box al (At.new w15 29 (ackD 2 0).cells))
  clear h15 al H14
  rw [show (ackD 2 0).val = (.agg #[.int .i64 4, .int .i64 2, .int .u32 0, .int .i64 0, .int .i64 0, .int .i64 0, .int .i64 0, .int .i64 3, .string ⟨#[]⟩, .string ⟨#[]⟩]) from rfl]
  go_upto_region 12 with fail
  generalize w15.alloc (.cells #[.int .i64 4, .int .i64 2, .int .u32 0, .int .i64 0, .int .i64 0, .int .i64 0, .int .i64 0, .int .i64 3, .string ⟨#[]⟩, .string ⟨#[]⟩] 29) = w16 at *
  generalize w15.heap.size = x2 at *
  go_wp2_with fail
  refine (ck_next_none H16.out).mono ?_; rintro e w17 ⟨rfl, h17⟩
  have al : Below w17.heap.size w17 (w17.alloc (.cells #[.int .i64 0, .int .i64 0, .int .u32 0, .int .i64 0, .int .i64 0, .int .i64 0, .int .i64 0, .int .i64 0, .string ⟨#[]⟩, .string ⟨#[]⟩] 29)) := (Below.refl _ _).alloc (Nat.le_refl _) _
  have H18 := Lib.hid (h17.below al)
  clear h17 al H16
  rw [show dgZ.val = (.agg #[.int .i64 0, .int .i64 0, .int .u32 0, .int .i64 0, .int .i64 0, .int .i64 0, .int .i64 0, .int .i64 0, .string ⟨#[]⟩, .string ⟨#[]⟩]) from rfl]
  go_upto_region 13 with fail
  generalize w17.alloc (.cells #[.int .i64 0, .int .i64 0, .int .u32 0, .int .i64 0, .int .i64 0, .int .i64 0, .int .i64 0, .int .i64 0, .string ⟨#[]⟩, .string ⟨#[]⟩] 29) = w18 at *
  generalize w17.heap.size = x3 at *
  have he1 := HE1.out
  have he2 := HE2.out
  have KP : Hid (∀ W, Below w18.heap.size w18 W → W.cell? ⟨x1, 0, none⟩ = some (.int .i64 4) ∧ W.cell? ⟨x1, 1, none⟩ = some (.int .i64 1) ∧ W.cell? ⟨x1, 2, none⟩ = some (.int .u32 6) ∧ W.cell? ⟨x1, 3, none⟩ = some (.int .i64 0) ∧ W.cell? ⟨x1, 4, none⟩ = some (.int .i64 0) ∧ W.cell? ⟨x1, 5, none⟩ = some (.int .i64 0) ∧ W.cell? ⟨x1, 6, none⟩ = some (.int .i64 0) ∧ W.cell? ⟨x1, 7, none⟩ = some (.int .i64 3) ∧ W.cell? ⟨x1, 8, none⟩ = some (.string ⟨#[]⟩) ∧ W.cell? ⟨x1, 9, none⟩ = some (.string ⟨#[]⟩) ∧ W.cell? ⟨x2, 0, none⟩ = some (.int .i64 4) ∧ W.cell? ⟨x2, 1, none⟩ = some (.int .i64 2) ∧ W.cell? ⟨x2, 2, none⟩ = some (.int .u32 0) ∧ W.cell? ⟨x2, 3, none⟩ = some (.int .i64 0) ∧ W.cell? ⟨x2, 4, none⟩ = some (.int .i64 0) ∧ W.cell? ⟨x2, 5, none⟩ = some (.int .i64 0) ∧ W.cell? ⟨x2, 6, none⟩ = some (.int .i64 0) ∧ W.cell? ⟨x2, 7, none⟩ = some (.int .i64 3) ∧ W.cell? ⟨x2, 8, none⟩ = some (.string ⟨#[]⟩) ∧ W.cell? ⟨x2, 9, none⟩ = some (.string ⟨#[]⟩)) := Lib.hid fun W hW => by
    obtain ⟨L, _, _, hk⟩ := H18.out.below hW
    have a1 := (hk (x1, ackD 1 6) (by simp)).1
    have a2 := (hk (x2, ackD 2 0) (by simp)).1
    exact ⟨a1.cell 0 rfl, a1.cell 1 rfl, a1.cell 2 rfl, a1.cell 3 rfl, a1.cell 4 rfl, a1.cell 5 rfl, a1.cell 6 rfl, a1.cell 7 rfl, a1.cell 8 rfl, a1.cell 9 rfl, a2.cell 0 rfl, a2.cell 1 rfl, a2.cell 2 rfl, a2.cell 3 rfl, a2.cell 4 rfl, a2.cell 5 rfl, a2.cell 6 rfl, a2.cell 7 rfl, a2.cell 8 rfl, a2.cell 9 rfl⟩
  have HA1 : Hid (∀ W : World, Calls Try.prog 15 #[.int .i64 1, .int .u32 6] W fun e w' => e = .returned (.agg #[.int .i64 4, .int .i64 1, .int .u32 6, .int .i64 0, .int .i64 0, .int .i64 0, .int .i64 0, .int .i64 3, .string ⟨#[]⟩, .string ⟨#[]⟩]) ∧ Below W.heap.size W w') := Lib.hid fun W => ack_any 1 6 W
  have HA2 : Hid (∀ W : World, Calls Try.prog 15 #[.int .i64 2, .int .u32 0] W fun e w' => e = .returned (.agg #[.int .i64 4, .int .i64 2, .int .u32 0, .int .i64 0, .int .i64 0, .int .i64 0, .int .i64 0, .int .i64 3, .string ⟨#[]⟩, .string ⟨#[]⟩]) ∧ Below W.heap.size W w') := Lib.hid fun W => ack_any 2 0 W
  have QQ : Hid (Below w18.heap.size w18 w18.drew) := Lib.hid (Below.refl _ _).drew
  obtain ⟨k0, k1, k2, k3, k4, k5, k6, k7, k8, k9, k10, k11, k12, k13, k14, k15, k16, k17, k18, k19⟩ := KP.out _ QQ.out
  go_region_held3 (fun W => W.cell? ⟨x1, 0, none⟩ = some (.int .i64 4) ∧ W.cell? ⟨x1, 1, none⟩ = some (.int .i64 1) ∧ W.cell? ⟨x1, 2, none⟩ = some (.int .u32 6) ∧ W.cell? ⟨x1, 3, none⟩ = some (.int .i64 0) ∧ W.cell? ⟨x1, 4, none⟩ = some (.int .i64 0) ∧ W.cell? ⟨x1, 5, none⟩ = some (.int .i64 0) ∧ W.cell? ⟨x1, 6, none⟩ = some (.int .i64 0) ∧ W.cell? ⟨x1, 7, none⟩ = some (.int .i64 3) ∧ W.cell? ⟨x1, 8, none⟩ = some (.string ⟨#[]⟩) ∧ W.cell? ⟨x1, 9, none⟩ = some (.string ⟨#[]⟩) ∧ W.cell? ⟨x2, 0, none⟩ = some (.int .i64 4) ∧ W.cell? ⟨x2, 1, none⟩ = some (.int .i64 2) ∧ W.cell? ⟨x2, 2, none⟩ = some (.int .u32 0) ∧ W.cell? ⟨x2, 3, none⟩ = some (.int .i64 0) ∧ W.cell? ⟨x2, 4, none⟩ = some (.int .i64 0) ∧ W.cell? ⟨x2, 5, none⟩ = some (.int .i64 0) ∧ W.cell? ⟨x2, 6, none⟩ = some (.int .i64 0) ∧ W.cell? ⟨x2, 7, none⟩ = some (.int .i64 3) ∧ W.cell? ⟨x2, 8, none⟩ = some (.string ⟨#[]⟩) ∧ W.cell? ⟨x2, 9, none⟩ = some (.string ⟨#[]⟩))
    (first | go_keep | with_reducible exact KP.out _ QQ.out)
    (first
    | ((with_reducible refine (HA1.out _).mono ?_); rintro e wq ⟨rfl, gq⟩; have QN := Lib.hid (QQ.out.trans (gq.mono QQ.out.size)); clear gq QQ; have QQ := QN; clear QN)
    | ((with_reducible refine (HA2.out _).mono ?_); rintro e wq ⟨rfl, gq⟩; have QN := Lib.hid (QQ.out.trans (gq.mono QQ.out.size)); clear gq QQ; have QQ := QN; clear QN))
  go_wp2_with fail
  go_ret
  exact ⟨rfl, (H18.out.below QQ.out).bel⟩
end Go.Proofs.Ytmnbkghihdbepaa

/- Proved: lemmas of one statement's proof, merged by program: what each part proves stands ahead of it. Conditions: those that the lemmas name. -/
import Derived.Test.YtgclgmfmcgacdaaM22
import Derived.Deep.RegionHeld3

/- Proved: the laws' example. No condition. -/
namespace Go.Proofs.Ytgclgmfmcgacdaa
open Go.ChangeShapes Go.WideShapes Go.ChangeAt Go.RowKit Go.MuLone

def aK : Ky := (1, 7)
def aS0 : List Fe := []
def aS1 : List Fe := [⟨(1, 7), 2, [(3, ⟨#[97]⟩)]⟩]
def aS2 : List Fe := [⟨(1, 7), 2, [(0, ⟨#[98]⟩), (3, ⟨#[97]⟩)]⟩]
def aS3 : List Fe := [⟨(1, 7), 2, [(0, ⟨#[98]⟩), (3, ⟨#[97]⟩)]⟩, ⟨(1, 0), 3, [(0, ⟨#[120]⟩)]⟩]
def aS4 : List Fe := [⟨(1, 0), 3, [(0, ⟨#[120]⟩)]⟩]
theorem a_p1 : putF aS0 2 (1, 7) 2 (3, ⟨#[97]⟩) = (0, aS1) := by rfl
theorem a_p2 : putF aS1 2 (1, 7) 2 (3, ⟨#[97]⟩) = (1, aS1) := by rfl
theorem a_p3 : putF aS1 2 (1, 7) 2 (0, ⟨#[98]⟩) = (3, aS2) := by rfl
theorem a_p4 : putF aS2 2 (1, 7) 2 (5, ⟨#[99]⟩) = (1, aS2) := by rfl
theorem a_p5 : putF aS2 2 (1, 0) 3 (0, ⟨#[120]⟩) = (0, aS3) := by rfl
theorem a_p6 : putF aS3 2 (2, 0) 3 (0, ⟨#[120]⟩) = (2, aS3) := by rfl
theorem a_p7 : putF aS4 2 (1, 7) 33 (0, ⟨#[]⟩) = (5, aS4) := by rfl
/-- the example's table, and the box of its key. -/
def AwAt (w W : World) (b : Nat) (bs : List (Nat × List Value)) (S : List Fe) : Prop := ∃ L, L.b = b ∧ SB w W L 4 2 S ∧ ∀ p ∈ bs, At W p.1 35 p.2 ∧ L.col p.1 = -1
section
variable {w W w' : World} {b : Nat} {bs : List (Nat × List Value)} {S S' : List Fe}
theorem AwAt.cell (h : AwAt w W b bs S) {p : Nat} {xs : List Value} (hp : (p, xs) ∈ bs) (j : Nat) {v : Value} (hv : xs[j]? = some v) : W.cell? ⟨p, j, none⟩ = some v := by
  obtain ⟨_, _, _, h⟩ := h
  exact (h _ hp).1.cell j hv
theorem AwAt.step {L L' : Ly} (hb : L'.b = b) (hs : SB w w' L' 4 2 S') (f : Fr W L w' L') (hk : ∀ p ∈ bs, At W p.1 35 p.2 ∧ L.col p.1 = -1) : AwAt w w' b bs S' :=
  ⟨L', hb, hs, fun p hp => f.at_ (hk p hp).1 (hk p hp).2⟩
theorem AwAt.free (h : AwAt w W b bs S) (t : Tn Nil W w') : AwAt w w' b bs S := by
  obtain ⟨L, hb, hs, hk⟩ := h
  exact ⟨L, hb, hs.free t, fun p hp => ⟨(hk p hp).1.tn t (fun e => e), (hk p hp).2⟩⟩
theorem AwAt.push (h : AwAt w W b bs S) (xs : List Value) : AwAt w (W.alloc (.cells xs.toArray 35)) b ((W.heap.size, xs) :: bs) S := by
  obtain ⟨L, hb, hs, hk⟩ := h
  refine ⟨L, hb, hs.alloc _, fun p hp => ?_⟩
  rcases List.mem_cons.1 hp with rfl | hp
  · exact ⟨At.new W _ xs, hs.new⟩
  · exact ⟨(hk p hp).1.alloc _, (hk p hp).2⟩
theorem AwAt.tn (h : AwAt w W b bs S) : Tn Nil w W := by
  obtain ⟨L, hb, ⟨_, _, _, _, t⟩, _⟩ := h
  exact t
theorem aw_put (h : AwAt w W b bs S) {k0 k1 : Int} (hk : KyOk (k0, k1)) (need i : Int) (t : ByteArray) {r : Int} (hr : putF S 2 (k0, k1) need (i, t) = (r, S')) :
    Calls Try.prog 12 #[.pointer (some ⟨b, 0, none⟩), .agg #[.int .i64 k0, .int .u32 k1], .int .i64 need, .agg #[.int .i64 i, .string t]] W fun e w' => e = .returned (.int .i64 r) ∧ AwAt w w' b bs S' := by
  obtain ⟨L, rfl, hs, hkb⟩ := h
  refine (sb_put hs hk need i t hr).mono ?_
  rintro e w' ⟨rfl, L', hb, hs', f⟩
  exact ⟨rfl, AwAt.step hb hs' f hkb⟩
theorem aw_oldest (h : AwAt w W b bs S) {k0 k1 : Int} {f : Bool} (hk : oldFK S = (k0, k1)) (hb : (oldF S).isSome = f) :
    Calls Try.prog 9 #[.pointer (some ⟨b, 0, none⟩)] W fun e w' => e = .returned (.tuple #[.agg #[.int .i64 k0, .int .u32 k1], .bool f]) ∧ AwAt w w' b bs S := by
  obtain ⟨L, rfl, hs, hkb⟩ := h
  refine (sb_oldest hs hk hb).mono ?_
  rintro e w' ⟨rfl, hs', f⟩
  exact ⟨rfl, AwAt.step rfl hs' f hkb⟩
/-- .. with a row of shards that it gave. -/
def AwRow (w W : World) (b : Nat) (bs : List (Nat × List Value)) (S : List Fe) (B : Nat) (v : Value) (l : List Shd) : Prop :=
  ∃ L, L.b = b ∧ SB w W L 4 2 S ∧ (∀ p ∈ bs, At W p.1 35 p.2 ∧ L.col p.1 = -1) ∧ W.ownsRow B 32 2 v l.length (hcells l) ∧ ∀ g, B ≤ g → L.col g = -1
variable {B : Nat} {v : Value} {l : List Shd}
theorem AwRow.at_ (h : AwRow w W b bs S B v l) : AwAt w W b bs S := by
  obtain ⟨L, h1, h2, h3, _⟩ := h
  exact ⟨L, h1, h2, h3⟩
theorem AwRow.row (h : AwRow w W b bs S B v l) : W.ownsRow B 32 2 v l.length (hcells l) := by
  obtain ⟨L, h1, h2, h3, h6, _⟩ := h
  exact h6
theorem AwRow.free (h : AwRow w W b bs S B v l) (t : Tn Nil W w') : AwRow w w' b bs S B v l := by
  obtain ⟨L, h1, h2, h3, h6, h7⟩ := h
  exact ⟨L, h1, h2.free t, fun p hp => ⟨(h3 p hp).1.tn t (fun e => e), (h3 p hp).2⟩, own_tn h6 t (fun _ _ _ e => e), h7⟩
theorem AwRow.step {L : Ly} (hs : SB w w' L 4 2 S') (f : Fr W L w' L) (hk : ∀ p ∈ bs, At W p.1 35 p.2 ∧ L.col p.1 = -1) (ho : W.ownsRow B 32 2 v l.length (hcells l)) (ha : ∀ g, B ≤ g → L.col g = -1) :
    AwRow w w' L.b bs S' B v l :=
  ⟨L, rfl, hs, fun p hp => f.at_ (hk p hp).1 (hk p hp).2, own_tn ho f.tn (fun g hb _ e => e (ha g hb)), ha⟩
theorem aw_take (h : AwAt w W b bs S) {k0 k1 : Int} (hk : KyOk (k0, k1)) {f : Bool} (hl : getF S (k0, k1) = l) (hb : (findF S (k0, k1)).isSome = f) (hs' : keepF S (butK (k0, k1)) = S') :
    Calls Try.prog 14 #[.pointer (some ⟨b, 0, none⟩), .agg #[.int .i64 k0, .int .u32 k1]] W fun e w' => ∃ v, e = .returned (.tuple #[v, .bool f]) ∧ AwRow w w' b bs S' W.heap.size v l := by
  obtain ⟨L, rfl, hs, hkb⟩ := h
  have hah : ∀ g, W.heap.size ≤ g → L.col g = -1 := by
    obtain ⟨X, hx, _⟩ := hs
    exact hx.st.ahead
  refine (sb_take hs hk hl hb hs').mono ?_
  rintro e w' ⟨⟨v, rfl, ho⟩, hs', f⟩
  exact ⟨v, rfl, L, rfl, hs', fun p hp => f.at_ (hkb p hp).1 (hkb p hp).2, ho, hah⟩
theorem aw_len (h : AwRow w W b bs S B v l) {m : Nat} (hm : S.length = m) :
    Calls Try.prog 11 #[.pointer (some ⟨b, 0, none⟩)] W fun e w' => e = .returned (.int .i64 (m : Nat)) ∧ AwRow w w' b bs S B v l := by
  obtain ⟨L, rfl, hs, hkb, ho, ha⟩ := h
  refine (sb_len hs hm).mono ?_
  rintro e w' ⟨rfl, hs', f⟩
  exact ⟨rfl, AwRow.step hs' f hkb ho ha⟩
theorem aw_bad (h : AwRow w W b bs S B v l) (k0 k1 : Int) (need i : Int) (t : ByteArray) (hb : badP need (i, t) = true) :
    Calls Try.prog 12 #[.pointer (some ⟨b, 0, none⟩), .agg #[.int .i64 k0, .int .u32 k1], .int .i64 need, .agg #[.int .i64 i, .string t]] W fun e w' => e = .returned (.int .i64 5) ∧ AwRow w w' b bs S B v l := by
  refine (put_bad (some b) (k0, k1) need (i, t) (.inr hb)).mono ?_
  rintro e w' ⟨rfl, t⟩
  exact ⟨rfl, h.free t⟩
theorem aw_drop (h : AwRow w W b bs S B v l) {s : Int} {m : Nat} (hm : (S.filter fun e => decide (e.k.1 = s)).length = m) (hs' : keepF S (fun k => !decide (k.1 = s)) = S') :
    Calls Try.prog 15 #[.pointer (some ⟨b, 0, none⟩), .int .i64 s] W fun e w' => e = .returned (.int .i64 (m : Nat)) ∧ AwRow w w' b bs S' B v l := by
  obtain ⟨L, rfl, hs, hkb, ho, ha⟩ := h
  refine (sb_drop hs hm hs').mono ?_
  rintro e w' ⟨rfl, hs', f⟩
  exact ⟨rfl, AwRow.step hs' f hkb ho ha⟩
end
set_option maxRecDepth 100000 in
set_option maxHeartbeats 6400000 in
theorem tb_awake (w : World) :
    Calls Try.prog 6 #[] w fun e w' => e = .returned (.bool true) ∧ Tn Nil w w' := by
  have HN := Lib.hid (sb_new (w := w) (wi := w) 4 2 (by decide) (by decide) (Tn.refl _ _))
  have HO := Lib.hid (fun W => tb_new_bad 0 2 W (by decide))
  have HKO : Hid (KyOk (1, 7)) := Lib.hid ⟨by decide, by decide, by decide, by decide⟩
  go_enter Try.func6, Try.ntmps6
  go_wp2_with fail
  refine HN.out.mono ?_; rintro e w1 ⟨L1, rfl, r1, t1, c1⟩
  have HA : Hid (AwAt w (w1.alloc (.cells #[.int .i64 1, .int .u32 7] 35)) L1.b [(w1.heap.size, [.int .i64 1, .int .u32 7])] aS0) := Lib.hid (AwAt.push (bs := []) ⟨L1, rfl, r1, fun _ h => nomatch h⟩ [.int .i64 1, .int .u32 7])
  clear r1 HN t1 c1
  generalize L1.b = b at *
  go_wp2_with fail
  refine (HO.out _).mono ?_; rintro e w2 ⟨rfl, rfl⟩
  go_wp2_with fail
  generalize w1.heap.size = kb at *
  generalize w1.alloc (.cells #[.int .i64 1, .int .u32 7] 35) = w2 at *
  have c0 := HA.out.cell (List.mem_cons_self ..) 0 rfl
  have c1 := HA.out.cell (List.mem_cons_self ..) 1 rfl
  have HB := Lib.hid (HA.out.free (w' := w2.drew) ((Tn.refl Nil w2).drew))
  clear HA
  have HA := HB
  clear HB
  go_region_held3 (fun w' => w'.cell? ⟨kb, 0, none⟩ = some (.int .i64 1) ∧ w'.cell? ⟨kb, 1, none⟩ = some (.int .u32 7))
    (first | go_keep | exact ⟨HA.out.cell (List.mem_cons_self ..) 0 rfl, HA.out.cell (List.mem_cons_self ..) 1 rfl⟩)
    (first
    | ((with_reducible refine (aw_put HA.out HKO.out 2 3 _ a_p1).mono ?_); rintro e wq ⟨rfl, hq⟩; clear c0 c1; have HB := Lib.hid hq; clear HA hq; have HA := HB; clear HB; have c0 := HA.out.cell (List.mem_cons_self ..) 0 rfl; have c1 := HA.out.cell (List.mem_cons_self ..) 1 rfl)
    | ((with_reducible refine (aw_put HA.out HKO.out 2 3 _ a_p2).mono ?_); rintro e wq ⟨rfl, hq⟩; clear c0 c1; have HB := Lib.hid hq; clear HA hq; have HA := HB; clear HB; have c0 := HA.out.cell (List.mem_cons_self ..) 0 rfl; have c1 := HA.out.cell (List.mem_cons_self ..) 1 rfl)
    | ((with_reducible refine (aw_put HA.out HKO.out 2 0 _ a_p3).mono ?_); rintro e wq ⟨rfl, hq⟩; clear c0 c1; have HB := Lib.hid hq; clear HA hq; have HA := HB; clear HB; have c0 := HA.out.cell (List.mem_cons_self ..) 0 rfl; have c1 := HA.out.cell (List.mem_cons_self ..) 1 rfl)
    | ((with_reducible refine (aw_put HA.out HKO.out 2 5 _ a_p4).mono ?_); rintro e wq ⟨rfl, hq⟩; clear c0 c1; have HB := Lib.hid hq; clear HA hq; have HA := HB; clear HB; have c0 := HA.out.cell (List.mem_cons_self ..) 0 rfl; have c1 := HA.out.cell (List.mem_cons_self ..) 1 rfl)
    | fail)
  clear c0 c1
  go_wp2_with fail
  refine (aw_put HA.out ⟨by decide, by decide, by decide, by decide⟩ 3 0 _ a_p5).mono ?_; rintro e w5 ⟨rfl, h5⟩
  have H5 := Lib.hid h5
  clear h5 HA
  go_wp2_with fail
  refine (aw_put H5.out ⟨by decide, by decide, by decide, by decide⟩ 3 0 _ a_p6).mono ?_; rintro e w6 ⟨rfl, h6⟩
  have H6 := Lib.hid h6
  clear h6 H5
  go_wp2_with fail
  refine (aw_oldest H6.out (k0 := 1) (k1 := 0) (f := true) rfl rfl).mono ?_; rintro e w7 ⟨rfl, h7⟩
  have HB := Lib.hid (h7.push [.int .i64 1, .int .u32 0])
  clear h7 H6
  have c0 := HB.out.cell (List.mem_cons_of_mem _ (List.mem_cons_self ..)) 0 rfl
  have c1 := HB.out.cell (List.mem_cons_of_mem _ (List.mem_cons_self ..)) 1 rfl
  go_wp2_with fail
  have ht := fun S' hs' => aw_take HB.out (S' := S') (l := [(0, ⟨#[98]⟩), (3, ⟨#[97]⟩)]) (f := true) HKO.out rfl rfl hs'
  refine (ht aS4 rfl).mono ?_; rintro e w9 ⟨v, rfl, h9⟩
  clear c0 c1
  have hrow := h9.row
  obtain ⟨g, cp, rfl, hgx, hgy⟩ := hrow.form (by decide)
  have s0 := hrow.cells (g := g) rfl 0 (.int .i64 0) rfl
  have s1 := hrow.cells (g := g) rfl 1 (.string ⟨#[98]⟩) rfl
  have c0 := h9.at_.cell (List.mem_cons_of_mem _ (List.mem_cons_self ..)) 0 rfl
  have c1 := h9.at_.cell (List.mem_cons_of_mem _ (List.mem_cons_self ..)) 1 rfl
  have o0 := h9.at_.cell (List.mem_cons_self ..) 0 rfl
  have o1 := h9.at_.cell (List.mem_cons_self ..) 1 rfl
  have H9 := Lib.hid h9
  clear h9 HB ht hrow hgx hgy
  generalize w7.heap.size = ob at *
  have ea : ∀ j, (⟨g, 0, none⟩ : Addr).add j = ⟨g, j, none⟩ := fun j => by unfold Addr.add; split <;> simp_all
  rw [ea] at s0 s1
  clear ea
  go_wp2_with fail
  refine (aw_len H9.out (m := 1) rfl).mono ?_; rintro e w10 ⟨rfl, h10⟩
  clear c0 c1 o0 o1 s0 s1
  have c0 := h10.at_.cell (List.mem_cons_of_mem _ (List.mem_cons_self ..)) 0 rfl
  have c1 := h10.at_.cell (List.mem_cons_of_mem _ (List.mem_cons_self ..)) 1 rfl
  have H10 := Lib.hid h10
  clear h10 H9
  go_wp2_with fail
  refine (aw_bad H10.out 1 7 33 0 _ (by decide)).mono ?_; rintro e w11 ⟨rfl, h11⟩
  have H11 := Lib.hid h11
  clear h11 H10 c0 c1
  go_wp2_with fail
  have hd := fun S' hs' => aw_drop H11.out (s := 1) (m := 1) (S' := S') rfl hs'
  refine (hd [] rfl).mono ?_; rintro e w12 ⟨rfl, h12⟩
  have H12 := Lib.hid h12
  clear h12 H11 hd
  go_wp2_with fail
  go_ret
  exact ⟨rfl, H12.out.at_.tn⟩
end Go.Proofs.Ytgclgmfmcgacdaa

/- Proved: TableNone. No condition. -/
namespace Go.Proofs.Ytgclgmfmcgacdaa
open Go.ChangeShapes Go.WideShapes Go.ChangeAt Go.RowKit Go.MuLone

/-- a deed. -/
structure De where
  kd : Int
  k : Ky
  need : Int
  i : Int
  t : ByteArray
def De.val (d : De) : Value := .agg #[.int .i64 d.kd, .int .i64 d.k.1, .int .u32 d.k.2, .int .i64 d.need, .int .i64 d.i, .string d.t]
set_option maxRecDepth 100000 in
set_option maxHeartbeats 3200000 in
theorem tb_none_walk (d : De) (w : World) :
    Calls Try.prog 5 #[d.val] w fun e w' => e = .returned (.bool true) ∧ Below w.heap.size w w' := by
  obtain ⟨kd, ⟨k0, k1⟩, nd, i, t⟩ := d
  show Calls Try.prog 5 #[.agg #[.int .i64 kd, .int .i64 k0, .int .u32 k1, .int .i64 nd, .int .i64 i, .string t]] w _
  have HX := Lib.hid (At.new w 37 [.int .i64 kd, .int .i64 k0, .int .u32 k1, .int .i64 nd, .int .i64 i, .string t])
  have HT := Lib.hid ((Tn.refl Nil w).alloc (.cells #[.int .i64 kd, .int .i64 k0, .int .u32 k1, .int .i64 nd, .int .i64 i, .string t] 37))
  go_enter Try.func5, Try.ntmps5
  go_wp2_with fail
  refine (tbget_none (k0, k1) _).mono ?_; rintro e w1 ⟨rfl, t1⟩
  have h1 := HX.out.tn t1 (fun e => e)
  have T1 := Lib.hid (HT.out.trans t1)
  have HL : Hid (w.heap.size < w1.heap.size) := Lib.hid h1.lt
  have HB : Hid (szW w ≤ w.heap.size) := Lib.hid (Nat.le_refl _)
  clear HX HT t1
  generalize w.heap.size = db at *
  have c1 := h1.cell 1 rfl
  have c2 := h1.cell 2 rfl
  have H1 := Lib.hid h1
  clear h1
  go_wp2_with fail
  refine (tbtake_none (k0, k1) _).mono ?_; rintro e w2 ⟨rfl, t2⟩
  clear c1 c2
  have H2 := Lib.hid (H1.out.tn t2 (fun e => e))
  have T2 := Lib.hid (T1.out.trans t2)
  clear t2 H1 T1
  go_wp2_with fail
  refine (tboldest_none _).mono ?_; rintro e w3 ⟨rfl, t3⟩
  have h3 := H2.out.tn t3 (fun e => e)
  have h4 := h3.alloc (.cells #[.int .i64 0, .int .u32 0] 35)
  have hk4 := At.new w3 35 [.int .i64 0, .int .u32 0]
  have T4 := Lib.hid ((T2.out.trans t3).alloc (.cells #[.int .i64 0, .int .u32 0] 35))
  have c1 := h4.cell 1 rfl
  have c2 := h4.cell 2 rfl
  have c3 := h4.cell 3 rfl
  have c4 := h4.cell 4 rfl
  have c5 := h4.cell 5 rfl
  have H4 := Lib.hid h4
  have HK4 := Lib.hid hk4
  clear h3 h4 hk4 t3 H2 T2
  go_wp2_with fail
  refine (put_bad none (k0, k1) nd (i, t) (.inl rfl)).mono ?_; rintro e w5 ⟨rfl, t5⟩
  clear c1 c2 c3 c4 c5
  have H5 := Lib.hid (H4.out.tn t5 (fun e => e))
  have HK5 := Lib.hid (HK4.out.tn t5 (fun e => e))
  have T5 := Lib.hid (T4.out.trans t5)
  clear t5 H4 HK4 T4
  have c1 := H5.out.cell 1 rfl
  have o0 := HK5.out.cell 0 rfl
  have o1 := HK5.out.cell 1 rfl
  generalize w3.heap.size = ob at *
  go_wp2_with fail
  refine (tbdrop_none k0 _).mono ?_; rintro e w6 ⟨rfl, rfl⟩
  go_wp2_with fail
  refine (tblen_none _).mono ?_; rintro e w6 ⟨rfl, rfl⟩
  go_wp2_with fail
  refine (tb_awake _).mono ?_; rintro e w6 ⟨rfl, t6⟩
  have T6 := Lib.hid (T5.out.trans t6)
  clear t6 T5 c1 o0 o1
  go_wp2_with fail
  go_ret
  exact ⟨rfl, T6.out.below (Below.refl w.heap.size w) (Nat.le_refl _) (fun _ _ e => e)⟩
end Go.Proofs.Ytgclgmfmcgacdaa

/- Proved: lemmas of one statement's proof, merged by program: what each part proves stands ahead of it. Conditions: those that the lemmas name. -/
import Derived.Test.YtodokgkchmpmnaaGreatM52
import Derived.Test.YtodokgkchmpmnaaGreatM42

/- Proved: what a stream sends, in the law's own first calls, call by call. Conditions: those that the theorems name. -/
namespace Go.Proofs.YtodokgkchmpmnaaGreat
open Go.ChangeShapes Go.WideShapes Go.ChangeAt Go.RowKit

/-- what a stream sends, all of it made since w; o is its block. -/
def OX (w W : World) (o : Nat) (M : ObM) : Prop := ∃ Y, Y.o = o ∧ Ob W Y M ∧ Below w.heap.size w W ∧ ∀ i, Y.own i → w.heap.size ≤ i
/-- blocks of other types than its own are as they were. -/
def ObK (W W' : World) : Prop := ∀ b t xs, At W b t xs → t ∉ obTypes → At W' b t xs
theorem obK_below {W W' : World} (h : Below W.heap.size W W') : ObK W W' := fun _ _ _ a _ => a.below h a.lt
theorem owns_slice {w : World} {base k n : Nat} {e : TypeId} {v : Value} {xs : List Value} (h : w.ownsRow base e k v n xs) : ∃ A cap, v = .slice A n cap := by
  obtain ⟨A, cap, hv, _⟩ := Cl.own (c := fun _ => True) h (fun _ _ => trivial)
  exact ⟨A, cap, hv⟩
section
variable {w W W' : World} {o : Nat} {M : ObM}
theorem OX.bel (h : OX w W o M) : Below w.heap.size w W := by obtain ⟨Y, _, _, b, _⟩ := h; exact b
theorem OX.below (h : OX w W o M) (b : Below W.heap.size W W') : OX w W' o M := by
  obtain ⟨Y, e, h, b0, n⟩ := h
  exact ⟨Y, e, h.below b, b0.trans (b.mono b0.size), n⟩
theorem OX.to_ {Y Y' : ObY} {M' : ObM} (e : Y.o = o) (b : Below w.heap.size w W) (n : ∀ i, Y.own i → w.heap.size ≤ i) (h0 : Ob W Y M) (h : Ob W' Y' M') (t : ObT W W' Y Y') : OX w W' o M' ∧ ObK W W' := by
  obtain ⟨b', n'⟩ := t.from_ b n
  exact ⟨⟨Y', t.o.trans e, h, b', n'⟩, fun q τ xs a hn => a.tn t.tn (h0.m.not_own a.obty hn)⟩
theorem x_new (b : Below w.heap.size w W) : Calls Tryz.prog 36 #[plainC.val, .int .i64 3] W fun e W' => ∃ o, e = .returned (.tuple #[.pointer (some ⟨o, 0, none⟩), .int .i64 0]) ∧ OX w W' o (obM0 plainC 3) := by
  refine (ob_new plainC 3 W (by decide) (by decide) (by decide)).mono ?_
  rintro e W' ⟨Y, rfl, h, b', n⟩
  exact ⟨Y.o, rfl, Y, rfl, h, b.trans (b'.mono b.size), fun i hi => Nat.le_trans b.size (n i hi)⟩
theorem x_new256 (W : World) : Calls Tryz.prog 36 #[plainC.val, .int .i64 256] W fun e W' => e = .returned (.tuple #[.pointer none, .int .i64 2]) ∧ Below W.heap.size W W' :=
  ob_new_out plainC 256 W (by decide) (by decide)
theorem x_write (h : OX w W o (obM0 plainC 3)) : Calls Tryz.prog 6 #[.pointer (some ⟨o, 0, none⟩), .string obAB] W fun e W' => e = .returned (.int .i64 2) ∧ OX w W' o obM1 ∧ ObK W W' := by
  obtain ⟨Y, rfl, h, b, n⟩ := h
  have q := ob_write h rfl obAB
  unfold GivesOb at q
  rw [ob_m1.1, ob_m1.2] at q
  refine q.mono ?_
  rintro e W' ⟨rfl, Y', h', t⟩
  exact ⟨rfl, OX.to_ rfl b n h h' t⟩
theorem x_fill (h : OX w W o obM1) : Calls Tryz.prog 8 #[.pointer (some ⟨o, 0, none⟩), .int .i64 0] W fun e W' => ∃ A c, e = .returned (.slice A 4 c) ∧ OX w W' o obM2 ∧ ObK W W' := by
  obtain ⟨Y, rfl, h, b, n⟩ := h
  refine (ob_fill h 0 (by decide) (by decide)).mono ?_
  rintro e W' ⟨u, rfl, ho, Y', h', t⟩
  rw [ob_fill1.1] at h'
  obtain ⟨A, cap, hu⟩ := owns_slice ho
  rw [ob_fill1.2] at hu
  exact ⟨A, cap, by rw [hu], OX.to_ rfl b n h h' t⟩
abbrev obM3 : ObM := obMk obE obL1 1 4 (obT (obA, false) (obB, true) (obK1, true) (obK2, true)) [(0, 1), (0, 2), (0, 3)] false false
theorem x_pop2 (h : OX w W o obM2) : Calls Tryz.prog 4 #[.pointer (some ⟨o, 0, none⟩)] W fun e W' => e = .returned (.tuple #[.agg #[.int .i64 1, .int .i64 3, .int .u32 0, .int .i64 0, .int .i64 2, .int .i64 4, .int .i64 2, .int .i64 0, .string ⟨#[]⟩, .string ⟨#[97]⟩], .bool true]) ∧ OX w W' o obM3 ∧ ObK W W' := by
  obtain ⟨Y, rfl, h, b, n⟩ := h
  refine (ob_pop_data h (x := 0) (i := 0) (j := 0) (sf := ⟨[(obA, true), (obB, true), (obK1, true), (obK2, true)], 2, 2⟩) (b := obA) (ws := true) (U' := [(0, 1), (0, 2), (0, 3)]) rfl (by decide) rfl rfl (by decide)).mono ?_
  rintro e W' ⟨rfl, Y', h', t⟩
  exact ⟨rfl, OX.to_ rfl b n h h' t⟩
theorem x_close (h : OX w W o obM3) : Calls Tryz.prog 7 #[.pointer (some ⟨o, 0, none⟩)] W fun e W' => e = .returned (.int .i64 0) ∧ OX w W' o obM4 ∧ ObK W W' := by
  obtain ⟨Y, rfl, h, b, n⟩ := h
  refine (ob_close h rfl).mono ?_
  rintro e W' ⟨rfl, Y', h', t⟩
  exact ⟨rfl, OX.to_ rfl b n h h' t⟩
theorem x_fin (h : OX w W o obM4) : Calls Tryz.prog 5 #[.pointer (some ⟨o, 0, none⟩)] W fun e W' => e = .returned (.tuple #[.int .u32 1, .bool true]) ∧ OX w W' o obM4 ∧ ObK W W' := by
  obtain ⟨Y, rfl, h, b, n⟩ := h
  refine (ob_fin h).mono ?_
  rintro e W' ⟨rfl, b'⟩
  exact ⟨rfl, ⟨Y, rfl, h.below b', b.trans (b'.mono b.size), n⟩, obK_below b'⟩
theorem x_nack4 (h : OX w W o obM4) : Calls Tryz.prog 9 #[.pointer (some ⟨o, 0, none⟩), .int .u32 0, .string (ofS [1])] W fun e W' => ∃ A c, e = .returned (.slice A 1 c) ∧ OX w W' o obM5 ∧ ObK W W' := by
  obtain ⟨Y, rfl, h, b, n⟩ := h
  refine (ob_nack h 0 ⟨by decide, by decide⟩ (ofS [1]) (by decide)).mono ?_
  rintro e W' ⟨u, rfl, ho, Y', h', t⟩
  rw [ob_ag4.1] at h'
  obtain ⟨A, cap, hu⟩ := owns_slice ho
  rw [ob_ag4.2] at hu
  exact ⟨A, cap, by rw [hu], OX.to_ rfl b n h h' t⟩
/-- how it stands when k more are taken. -/
def obP : Nat → ObM
  | 0 => obM5
  | 1 => obMk obE obL1 1 4 (obT (obA, true) (obB, false) (obK1, true) (obK2, true)) [(0, 2), (0, 3), (0, 0)] true false
  | 2 => obMk obE obL1 1 4 (obT (obA, true) (obB, false) (obE, false) (obK2, true)) [(0, 3), (0, 0)] true false
  | _ => obM8
theorem x_popk {k : Nat} (hk : k < 3) (h : OX w W o (obP k)) : Calls Tryz.prog 4 #[.pointer (some ⟨o, 0, none⟩)] W fun e W' => ∃ v, e = .returned v ∧ OX w W' o (obP (k + 1)) ∧ ObK W W' := by
  obtain ⟨Y, rfl, h, b, n⟩ := h
  match k, hk with
  | 0, _ =>
    refine (ob_pop_data (M := obM5) h (x := 0) (i := 0) (j := 1) (sf := ⟨[(obA, true), (obB, true), (obK1, true), (obK2, true)], 2, 2⟩) (b := obB) (ws := true) (U' := [(0, 2), (0, 3), (0, 0)]) rfl (by decide) rfl rfl (by decide)).mono ?_
    rintro e W' ⟨rfl, Y', h', t⟩
    exact ⟨_, rfl, OX.to_ rfl b n h h' t⟩
  | 1, _ =>
    refine (ob_pop_rep (M := obP 1) h (x := 0) (i := 0) (j := 2) (sf := ⟨[(obA, true), (obB, false), (obK1, true), (obK2, true)], 2, 2⟩) (b := obK1) (ws := true) (U' := [(0, 3), (0, 0)]) rfl (by decide) rfl rfl (by decide)).mono ?_
    rintro e W' ⟨rfl, Y', h', t⟩
    exact ⟨_, rfl, OX.to_ rfl b n h h' t⟩
  | 2, _ =>
    refine (ob_pop_rep (M := obP 2) h (x := 0) (i := 0) (j := 3) (sf := ⟨[(obA, true), (obB, false), (obE, false), (obK2, true)], 2, 2⟩) (b := obK2) (ws := true) (U' := [(0, 0)]) rfl (by decide) rfl rfl (by decide)).mono ?_
    rintro e W' ⟨rfl, Y', h', t⟩
    exact ⟨_, rfl, OX.to_ rfl b n h h' t⟩
theorem x_nack8 (h : OX w W o obM8) : Calls Tryz.prog 9 #[.pointer (some ⟨o, 0, none⟩), .int .u32 0, .string (ofS [1])] W fun e W' => ∃ A c, e = .returned (.slice A 0 c) ∧ OX w W' o obM8 ∧ ObK W W' := by
  obtain ⟨Y, rfl, h, b, n⟩ := h
  refine (ob_nack h 0 ⟨by decide, by decide⟩ (ofS [1]) (by decide)).mono ?_
  rintro e W' ⟨u, rfl, ho, Y', h', t⟩
  rw [ob_ag8.1] at h'
  obtain ⟨A, cap, hu⟩ := owns_slice ho
  rw [ob_ag8.2] at hu
  exact ⟨A, cap, by rw [hu], OX.to_ rfl b n h h' t⟩
theorem x_ack (h : OX w W o obM8) : Calls Tryz.prog 11 #[.pointer (some ⟨o, 0, none⟩), .int .u32 2, .int .i64 4] W fun e W' => e = .returned (.int .i64 1) ∧ OX w W' o obM9 ∧ ObK W W' := by
  obtain ⟨Y, rfl, h, b, n⟩ := h
  have q := ob_ack_fin h 2 4 (by decide) (by decide)
  unfold GivesOb at q
  rw [show obM8.nx = 1 from rfl, show obM8.L.length = 1 from rfl, ob_ack8.1, ob_ack8.2] at q
  refine q.mono ?_
  rintro e W' ⟨rfl, Y', h', t⟩
  exact ⟨rfl, OX.to_ rfl b n h h' t⟩
abbrev obM10 : ObM := obMk obE [] 1 6 [] [] true true
theorem x_pop9 (h : OX w W o obM9) : Calls Tryz.prog 4 #[.pointer (some ⟨o, 0, none⟩)] W fun e W' => e = .returned (.tuple #[.agg #[.int .i64 0, .int .i64 0, .int .u32 0, .int .i64 0, .int .i64 0, .int .i64 0, .int .i64 0, .int .i64 0, .string ⟨#[]⟩, .string ⟨#[]⟩], .bool false]) ∧ OX w W' o obM10 ∧ ObK W W' := by
  obtain ⟨Y, rfl, h, b, n⟩ := h
  refine (ob_pop_gone h (x := 0) (y := 0) (U' := []) rfl ⟨by decide, by decide⟩ (by decide)).mono ?_
  rintro e W' ⟨rfl, Y', h', t⟩
  exact ⟨rfl, OX.to_ rfl b n h h' t⟩
theorem x_finished (h : OX w W o obM10) : Calls Tryz.prog 12 #[.pointer (some ⟨o, 0, none⟩)] W fun e W' => e = .returned (.bool true) ∧ W = W' := by
  obtain ⟨Y, rfl, h, b, n⟩ := h
  exact ob_finished h
theorem x_writex (h : OX w W o obM10) (t : ByteArray) : Calls Tryz.prog 6 #[.pointer (some ⟨o, 0, none⟩), .string t] W fun e W' => e = .returned (.int .i64 0) ∧ W = W' := by
  obtain ⟨Y, rfl, h, b, n⟩ := h
  exact ob_write_closed h rfl t
theorem x_held (h : OX w W o obM10) : Calls Tryz.prog 14 #[.pointer (some ⟨o, 0, none⟩)] W fun e W' => e = .returned (.int .i64 0) ∧ Below W.heap.size W W' := by
  obtain ⟨Y, rfl, h, b, n⟩ := h
  exact ob_held h
theorem x_closed (h : OX w W o obM10) : Calls Tryz.prog 7 #[.pointer (some ⟨o, 0, none⟩)] W fun e W' => e = .returned (.int .i64 11) ∧ W = W' := by
  obtain ⟨Y, rfl, h, b, n⟩ := h
  exact ob_close_closed h rfl
end
end Go.Proofs.YtodokgkchmpmnaaGreat

/- Proved: the law's own first calls of package outbound come out as they should. No condition. -/
namespace Go.Proofs.YtodokgkchmpmnaaGreat
open Go.ChangeShapes Go.WideShapes Go.ChangeAt Go.RowKit

theorem ob_rof (W : World) : Calls Tryz.prog 38 #[.slice (some ⟨W.heap.size, 0, none⟩) 1 1] (W.alloc (.cells #[.int .i64 1] 3)) fun e W' => e = .returned (.string (ofS [1])) ∧ Below W.heap.size W W' := by
  have hb : Below W.heap.size W (W.alloc (.cells #[.int .i64 1] 3)) := (Below.refl _ _).alloc (Nat.le_refl _) _
  refine (rof_any (some ⟨W.heap.size, 0, none⟩) 1 1 [1] (W.alloc (.cells #[.int .i64 1] 3)) ⟨rfl, fun _ => ⟨_, rfl, by simp, fun j hj => by
    obtain rfl : j = 0 := by omega
    exact (At.new W 3 [.int .i64 1]).cell 0 rfl⟩⟩ (by decide)).mono ?_
  rintro e W' ⟨rfl, b⟩
  exact ⟨rfl, hb.trans (b.mono hb.size)⟩
set_option maxRecDepth 100000 in
set_option maxHeartbeats 6400000 in
theorem ob_awake (w : World) : Calls Tryz.prog 15 #[] w fun e w' => e = .returned (.bool true) ∧ Below w.heap.size w w' := by
  have HPL := Lib.hid (fun W => cf_rplain W)
  go_enter Tryz.func15, Tryz.ntmps15
  go_wp2_with fail
  refine (HPL.out _).mono ?_; rintro e w1 ⟨rfl, b1⟩
  have B1 := Lib.hid b1
  clear b1
  go_wp2_with fail
  refine (x_new B1.out).mono ?_; rintro e w2 ⟨o, rfl, h2⟩
  have H2 := Lib.hid h2
  clear h2 B1
  go_wp2_with fail
  refine (HPL.out _).mono ?_; rintro e w3 ⟨rfl, b3⟩
  have H3 := Lib.hid (H2.out.below b3)
  clear b3 H2
  go_wp2_with fail
  refine (x_new256 _).mono ?_; rintro e w4 ⟨rfl, b4⟩
  have H4 := Lib.hid (H3.out.below b4)
  clear b4 H3
  go_wp2_with fail
  refine (x_write H4.out).mono ?_; rintro e w5 ⟨rfl, h5, -⟩
  have H5 := Lib.hid h5
  clear h5 H4
  go_wp2_with fail
  refine (x_fill H5.out).mono ?_; rintro e w6 ⟨A6, c6, rfl, h6, -⟩
  have H6 := Lib.hid h6
  clear h6 H5
  go_wp2_with fail
  refine (x_pop2 H6.out).mono ?_; rintro e w7 ⟨rfl, h7, -⟩
  have hB7 := (Below.refl w7.heap.size w7).alloc (Nat.le_refl _) (.cells #[.int .i64 1, .int .i64 3, .int .u32 0, .int .i64 0, .int .i64 2, .int .i64 4, .int .i64 2, .int .i64 0, .string ⟨#[]⟩, .string ⟨#[97]⟩] 27)
  have H7 := Lib.hid (h7.below hB7)
  have X7 := Lib.hid (At.new w7 27 [.int .i64 1, .int .i64 3, .int .u32 0, .int .i64 0, .int .i64 2, .int .i64 4, .int .i64 2, .int .i64 0, .string ⟨#[]⟩, .string ⟨#[97]⟩])
  clear h7 H6 hB7
  go_wp2_with fail
  generalize w7.alloc (.cells #[.int .i64 1, .int .i64 3, .int .u32 0, .int .i64 0, .int .i64 2, .int .i64 4, .int .i64 2, .int .i64 0, .string ⟨#[]⟩, .string ⟨#[97]⟩] 27) = w8 at *
  generalize w7.heap.size = b7 at *
  refine (x_close H7.out).mono ?_; rintro e w9 ⟨rfl, h9, k9⟩
  have H9 := Lib.hid h9
  have X9 := Lib.hid (k9 _ _ _ X7.out (by decide))
  clear h9 k9 H7 X7
  go_wp2_with fail
  refine (x_fin H9.out).mono ?_; rintro e w10 ⟨rfl, h10, k10⟩
  have H10 := Lib.hid h10
  have X10 := Lib.hid (k10 _ _ _ X9.out (by decide))
  clear h10 k10 H9 X9
  go_wp2_with fail
  refine (ob_rof _).mono ?_; rintro e w11 ⟨rfl, b11⟩
  have H11 := Lib.hid (H10.out.below b11)
  have X11 := Lib.hid (X10.out.below b11 X10.out.lt)
  clear b11 H10 X10
  go_wp2_with fail
  refine (x_nack4 H11.out).mono ?_; rintro e w12 ⟨A12, c12, rfl, h12, k12⟩
  have H12 := Lib.hid h12
  have X12 := Lib.hid (k12 _ _ _ X11.out (by decide))
  clear h12 k12 H11 X11
  go_wp2_with fail
  go_loopw [13] (fun v wr => ∃ k : Nat, k ≤ 3 ∧ v = .int .i64 k ∧ OX w wr o (obP k) ∧ At wr b7 27 [.int .i64 1, .int .i64 3, .int .u32 0, .int .i64 0, .int .i64 2, .int .i64 4, .int .i64 2, .int .i64 0, .string ⟨#[]⟩, .string ⟨#[97]⟩]) (fun v _ => 3 - (intOf v).toNat)
  case atStart => exact ⟨0, by omega, rfl, H12.out, X12.out⟩
  case round =>
    obtain ⟨k, hk, rfl, hox, hx⟩ := hrel
    have HOX := Lib.hid hox
    have HX := Lib.hid hx
    clear hox hx H12 X12
    have hk0 : (0 : Int) ≤ (k : Int) := Int.natCast_nonneg _
    by_cases hlt : k < 3
    · have hlt' : (k : Int) < 3 := by omega
      have HPO := Lib.hid (x_popk hlt HOX.out)
      go_wp2_with fail
      refine HPO.out.mono ?_; rintro e w13 ⟨v, rfl, h13, k13⟩
      have H13 := Lib.hid h13
      have X13 := Lib.hid (k13 _ _ _ HX.out (by decide))
      clear h13 k13 HPO
      go_wp2_with fail
      go_roundw
      case rel => exact ⟨k + 1, by omega, by go_num, H13.out, X13.out⟩
      case measure => simp [intOf]; omega
    · obtain rfl : k = 3 := by omega
      have H14 : Hid (OX w wr o obM8) := Lib.hid HOX.out
      go_wp2_with fail
      refine (ob_rof _).mono ?_; rintro e w15 ⟨rfl, b15⟩
      have H15 := Lib.hid (H14.out.below b15)
      have X15 := Lib.hid (HX.out.below b15 HX.out.lt)
      clear b15 H14 HX HOX
      go_wp2_with fail
      refine (x_nack8 H15.out).mono ?_; rintro e w16 ⟨A16, c16, rfl, h16, k16⟩
      have H16 := Lib.hid h16
      have X16 := Lib.hid (k16 _ _ _ X15.out (by decide))
      clear h16 k16 H15 X15
      go_wp2_with fail
      refine (x_ack H16.out).mono ?_; rintro e w17 ⟨rfl, h17, k17⟩
      have H17 := Lib.hid h17
      have X17 := Lib.hid (k17 _ _ _ X16.out (by decide))
      clear h17 k17 H16 X16
      go_wp2_with fail
      refine (x_pop9 H17.out).mono ?_; rintro e w18 ⟨rfl, h18, k18⟩
      have X18 := k18 _ _ _ X17.out (by decide)
      have hB18 := (Below.refl w18.heap.size w18).alloc (Nat.le_refl _) (.cells #[.int .i64 0, .int .i64 0, .int .u32 0, .int .i64 0, .int .i64 0, .int .i64 0, .int .i64 0, .int .i64 0, .string ⟨#[]⟩, .string ⟨#[]⟩] 27)
      have H19 := Lib.hid (h18.below hB18)
      have X19 := Lib.hid (X18.below hB18 X18.lt)
      clear h18 k18 H17 X17 X18 hB18
      have c0 := X19.out.cell 0 rfl
      have c1 := X19.out.cell 1 rfl
      have c2 := X19.out.cell 2 rfl
      have c3 := X19.out.cell 3 rfl
      have c4 := X19.out.cell 4 rfl
      have c5 := X19.out.cell 5 rfl
      have c6 := X19.out.cell 6 rfl
      have c7 := X19.out.cell 7 rfl
      have c8 := X19.out.cell 8 rfl
      have c9 := X19.out.cell 9 rfl
      have heq : ∀ W : World, (binOp .eql 27 (.agg #[.int .i64 1, .int .i64 3, .int .u32 0, .int .i64 0, .int .i64 2, .int .i64 4, .int .i64 2, .int .i64 0, .string ⟨#[]⟩, .string ⟨#[97]⟩]) (.agg #[.int .i64 1, .int .i64 3, .int .u32 0, .int .i64 0, .int .i64 2, .int .i64 4, .int .i64 2, .int .i64 0, .string ⟨#[]⟩, .string ⟨#[97]⟩])).run Tryz.prog W = .ok (.bool true) W := fun W => by
        have e := eq_dg ⟨1, 3, 0, 0, 2, 4, 2, 0, ⟨#[]⟩, ⟨#[97]⟩⟩ ⟨1, 3, 0, 0, 2, 4, 2, 0, ⟨#[]⟩, ⟨#[97]⟩⟩ W
        rw [eqB_refl] at e
        exact e
      go_wp2_with fail
      refine (x_finished H19.out).mono ?_; rintro e w20 ⟨rfl, rfl⟩
      clear c0 c1 c2 c3 c4 c5 c6 c7 c8 c9 heq
      generalize w18.alloc (.cells #[.int .i64 0, .int .i64 0, .int .u32 0, .int .i64 0, .int .i64 0, .int .i64 0, .int .i64 0, .int .i64 0, .string ⟨#[]⟩, .string ⟨#[]⟩] 27) = w19 at *
      go_wp2_with fail
      refine (x_writex H19.out _).mono ?_; rintro e w20 ⟨rfl, rfl⟩
      go_wp2_with fail
      refine (x_held H19.out).mono ?_; rintro e w21 ⟨rfl, b21⟩
      have H21 := Lib.hid (H19.out.below b21)
      clear b21
      go_wp2_with fail
      refine (x_closed H21.out).mono ?_; rintro e w22 ⟨rfl, rfl⟩
      go_wp2_with fail
      go_ret
      exact ⟨rfl, H21.out.bel⟩
end Go.Proofs.YtodokgkchmpmnaaGreat

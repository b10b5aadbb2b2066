/- Proved: lemmas of one statement's proof, merged by program: what each part proves stands ahead of it. Conditions: those that the lemmas name. -/
import Derived.Test.YtodokgkchmpmnaaGreatM53
import Derived.Test.YtodokgkchmpmnaaGreatM45
import Derived.Deep.Slices
import Derived.Deep.Strs
import Derived.ChangeSame
import Derived.OpenShut
import Derived.WideShapes

/- Proved: what OutboundNone answers, for every deed. Conditions: those that the theorems name. -/
namespace Go.Proofs.YtodokgkchmpmnaaGreat
open Go.ChangeShapes Go.WideShapes Go.ChangeAt Go.RowKit

/-! ### a deed -/
structure Od27 where
  kind : Int
  body : ByteArray
  n : Int
  block : Int
  have_ : ByteArray
abbrev Od27.val (x : Od27) : Value := .agg #[.int .i64 x.kind, .string x.body, .int .i64 x.n, .int .u32 x.block, .string x.have_]
theorem five_of {α : Type} {cs : Array α} (h : cs.size = 5) : ∃ c0 c1 c2 c3 c4, cs = #[c0, c1, c2, c3, c4] := by
  obtain ⟨l⟩ := cs
  match l, h with
  | [c0, c1, c2, c3, c4], _ => exact ⟨c0, c1, c2, c3, c4, rfl⟩
section
variable {H : Type} {enc : TypeId × Value → H} {w : World} {base : Nat} {held : Bool} {d : DataW H} {p : List MemPlace} {spare : Nat → Bool}
set_option maxRecDepth 100000 in
theorem od27_arg {r : _root_.Go.Reach} {b0 : Nat} {v : Value} (hv : Value.okWide Tryz.prog w r b0 24 v) (h : DataW.Trod enc Tryz.prog w base spare held 24 v d p) : ∃ a : Od27, v = a.val := by
  obtain ⟨cs, rfl, hsz⟩ := okWide_struct Tryz.underlying24 hv
  rw [show Tryz.prog.cellsOf 24 = 5 by kernel_rfl] at hsz
  obtain ⟨c0, c1, c2, c3, c4, rfl⟩ := five_of hsz
  obtain ⟨fuel, hf⟩ := h
  obtain ⟨xs, n, _, _, _, hlen, hat⟩ := DataW.trod_struct Tryz.underlying24 hf
  have e3 : Tryz.prog.cellsOf 3 = 1 := by kernel_rfl
  have e9 : Tryz.prog.cellsOf 9 = 1 := by kernel_rfl
  have e22 : Tryz.prog.cellsOf 22 = 1 := by kernel_rfl
  have hx : xs.length = 5 := hlen
  have hin : ∀ (i : Nat), i < 5 → ∃ y, xs[i]? = some y := fun i hi => ⟨_, List.getElem?_eq_getElem (by rw [hx]; exact hi)⟩
  obtain ⟨y0, j0⟩ := hin 0 (by decide)
  have g0 : DataW.trod enc Tryz.prog w base spare held n 3 [c0] = some y0 := by
    have h : DataW.trod enc Tryz.prog w base spare held n 3 (List.take (Tryz.prog.cellsOf 3) (List.drop 0 [c0, c1, c2, c3, c4])) = xs[0]? := hat 0 _ rfl
    rw [e3, j0] at h
    exact h
  obtain ⟨y1, j1⟩ := hin 1 (by decide)
  have g1 : DataW.trod enc Tryz.prog w base spare held n 9 [c1] = some y1 := by
    have h : DataW.trod enc Tryz.prog w base spare held n 9 (List.take (Tryz.prog.cellsOf 9) (List.drop 1 [c0, c1, c2, c3, c4])) = xs[1]? := hat 1 _ rfl
    rw [e9, j1] at h
    exact h
  obtain ⟨y2, j2⟩ := hin 2 (by decide)
  have g2 : DataW.trod enc Tryz.prog w base spare held n 3 [c2] = some y2 := by
    have h : DataW.trod enc Tryz.prog w base spare held n 3 (List.take (Tryz.prog.cellsOf 3) (List.drop 2 [c0, c1, c2, c3, c4])) = xs[2]? := hat 2 _ rfl
    rw [e3, j2] at h
    exact h
  obtain ⟨y3, j3⟩ := hin 3 (by decide)
  have g3 : DataW.trod enc Tryz.prog w base spare held n 22 [c3] = some y3 := by
    have h : DataW.trod enc Tryz.prog w base spare held n 22 (List.take (Tryz.prog.cellsOf 22) (List.drop 3 [c0, c1, c2, c3, c4])) = xs[3]? := hat 3 _ rfl
    rw [e22, j3] at h
    exact h
  obtain ⟨y4, j4⟩ := hin 4 (by decide)
  have g4 : DataW.trod enc Tryz.prog w base spare held n 9 [c4] = some y4 := by
    have h : DataW.trod enc Tryz.prog w base spare held n 9 (List.take (Tryz.prog.cellsOf 9) (List.drop 4 [c0, c1, c2, c3, c4])) = xs[4]? := hat 4 _ rfl
    rw [e9, j4] at h
    exact h
  obtain ⟨z0, q0, _, _⟩ := DataW.trod_int Tryz.underlying3 g0
  obtain ⟨z1, q1, _, _⟩ := DataW.trod_string Tryz.underlying9 g1
  obtain ⟨z2, q2, _, _⟩ := DataW.trod_int Tryz.underlying3 g2
  obtain ⟨z3, q3, _, _⟩ := DataW.trod_int Tryz.underlying22 g3
  obtain ⟨z4, q4, _, _⟩ := DataW.trod_string Tryz.underlying9 g4
  simp at q0 q1 q2 q3 q4
  subst q0 q1 q2 q3 q4
  exact ⟨⟨z0, z1, z2, z3, z4⟩, rfl⟩
end

set_option maxRecDepth 100000 in
set_option maxHeartbeats 3200000 in
theorem ob_none_walk (d : Od27) (w : World) :
    Calls Tryz.prog 3 #[d.val] w fun e w' => e = .returned (.bool true) ∧ Below w.heap.size w w' := by
  obtain ⟨k, s, n, x, t⟩ := d
  show Calls Tryz.prog 3 #[.agg #[.int .i64 k, .string s, .int .i64 n, .int .u32 x, .string t]] w _
  have HX := Lib.hid (At.new w 24 [.int .i64 k, .string s, .int .i64 n, .int .u32 x, .string t])
  have HB := Lib.hid ((Below.refl w.heap.size w).alloc (Nat.le_refl _) (.cells #[.int .i64 k, .string s, .int .i64 n, .int .u32 x, .string t] 24))
  obtain ⟨W0, hW0⟩ : ∃ W0, W0 = w.alloc (.cells #[.int .i64 k, .string s, .int .i64 n, .int .u32 x, .string t] 24) := ⟨_, rfl⟩
  rw [← hW0] at HX HB
  have heq : ∀ W : World, (binOp .eql 27 (.agg #[.int .i64 0, .int .i64 0, .int .u32 0, .int .i64 0, .int .i64 0, .int .i64 0, .int .i64 0, .int .i64 0, .string ⟨#[]⟩, .string ⟨#[]⟩]) (.agg #[.int .i64 0, .int .i64 0, .int .u32 0, .int .i64 0, .int .i64 0, .int .i64 0, .int .i64 0, .int .i64 0, .string ⟨#[]⟩, .string ⟨#[]⟩])).run Tryz.prog W = .ok (.bool true) W := fun W => by
    have e := eq_dg obZ obZ W
    rw [eqB_refl] at e
    exact e
  have HEQ := Lib.hid heq
  clear heq
  go_enter Tryz.func3, Tryz.ntmps3
  go_upto_region 2 with fail
  rw [← hW0]; clear hW0
  go_wp2_with fail
  refine (ob_pop_nil _).mono ?_; rintro e w1 ⟨rfl, b1⟩
  have hb2 := b1.alloc b1.size (.cells #[.int .i64 0, .int .i64 0, .int .u32 0, .int .i64 0, .int .i64 0, .int .i64 0, .int .i64 0, .int .i64 0, .string ⟨#[]⟩, .string ⟨#[]⟩] 27)
  have X2 := Lib.hid (HX.out.below hb2 HX.out.lt)
  have B2 := Lib.hid (HB.out.trans (hb2.mono HB.out.size))
  have Z2 := Lib.hid (At.new w1 27 [.int .i64 0, .int .i64 0, .int .u32 0, .int .i64 0, .int .i64 0, .int .i64 0, .int .i64 0, .int .i64 0, .string ⟨#[]⟩, .string ⟨#[]⟩])
  clear hb2 b1 HX HB
  unfold Dg.val obZ
  dsimp only
  go_wp2_with fail
  generalize w1.alloc (.cells #[.int .i64 0, .int .i64 0, .int .u32 0, .int .i64 0, .int .i64 0, .int .i64 0, .int .i64 0, .int .i64 0, .string ⟨#[]⟩, .string ⟨#[]⟩] 27) = w2 at *
  generalize w1.heap.size = b2 at *
  refine (ob_fin_nil _).mono ?_; rintro e w3 ⟨rfl, rfl⟩
  have KP : Hid (∀ W, Below w2.heap.size w2 W → W.cell? ⟨w.heap.size, 1, none⟩ = some (.string s) ∧ W.cell? ⟨w.heap.size, 2, none⟩ = some (.int .i64 n) ∧ W.cell? ⟨w.heap.size, 3, none⟩ = some (.int .u32 x) ∧ W.cell? ⟨w.heap.size, 4, none⟩ = some (.string t) ∧ W.cell? ⟨b2, 0, none⟩ = some (.int .i64 0) ∧ W.cell? ⟨b2, 1, none⟩ = some (.int .i64 0) ∧ W.cell? ⟨b2, 2, none⟩ = some (.int .u32 0) ∧ W.cell? ⟨b2, 3, none⟩ = some (.int .i64 0) ∧ W.cell? ⟨b2, 4, none⟩ = some (.int .i64 0) ∧ W.cell? ⟨b2, 5, none⟩ = some (.int .i64 0) ∧ W.cell? ⟨b2, 6, none⟩ = some (.int .i64 0) ∧ W.cell? ⟨b2, 7, none⟩ = some (.int .i64 0) ∧ W.cell? ⟨b2, 8, none⟩ = some (.string ⟨#[]⟩) ∧ W.cell? ⟨b2, 9, none⟩ = some (.string ⟨#[]⟩)) := Lib.hid fun W hW => by
    have a := X2.out.below hW X2.out.lt
    have z := Z2.out.below hW Z2.out.lt
    exact ⟨a.cell 1 rfl, a.cell 2 rfl, a.cell 3 rfl, a.cell 4 rfl, z.cell 0 rfl, z.cell 1 rfl, z.cell 2 rfl, z.cell 3 rfl, z.cell 4 rfl, z.cell 5 rfl, z.cell 6 rfl, z.cell 7 rfl, z.cell 8 rfl, z.cell 9 rfl⟩
  have heq := HEQ.out
  go_wp2_with fail
  have QQ : Hid (Below w2.heap.size w2 w2.drew) := Lib.hid (Below.refl w2.heap.size w2).drew
  obtain ⟨k0, k1, k2, k3, k4, k5, k6, k7, k8, k9, k10, k11, k12, k13⟩ := KP.out _ QQ.out
  dsimp only [List.append]
  go_region_held3 (fun W => W.cell? ⟨w.heap.size, 1, none⟩ = some (.string s) ∧ W.cell? ⟨w.heap.size, 2, none⟩ = some (.int .i64 n) ∧ W.cell? ⟨w.heap.size, 3, none⟩ = some (.int .u32 x) ∧ W.cell? ⟨w.heap.size, 4, none⟩ = some (.string t) ∧ W.cell? ⟨b2, 0, none⟩ = some (.int .i64 0) ∧ W.cell? ⟨b2, 1, none⟩ = some (.int .i64 0) ∧ W.cell? ⟨b2, 2, none⟩ = some (.int .u32 0) ∧ W.cell? ⟨b2, 3, none⟩ = some (.int .i64 0) ∧ W.cell? ⟨b2, 4, none⟩ = some (.int .i64 0) ∧ W.cell? ⟨b2, 5, none⟩ = some (.int .i64 0) ∧ W.cell? ⟨b2, 6, none⟩ = some (.int .i64 0) ∧ W.cell? ⟨b2, 7, none⟩ = some (.int .i64 0) ∧ W.cell? ⟨b2, 8, none⟩ = some (.string ⟨#[]⟩) ∧ W.cell? ⟨b2, 9, none⟩ = some (.string ⟨#[]⟩))
    (first | with_reducible exact KP.out _ QQ.out | go_keep)
    (first
    | ((with_reducible refine (ob_write_nil s _).mono ?_); rintro e wq ⟨rfl, rfl⟩)
    | ((with_reducible refine (ob_close_nil _).mono ?_); rintro e wq ⟨rfl, rfl⟩)
    | ((with_reducible refine (ob_fill_nil n _).mono ?_); rintro e wq ⟨rfl, rfl⟩)
    | ((with_reducible refine (ob_nack_nil x t _).mono ?_); rintro e wq ⟨rfl, gq⟩; have QN := Lib.hid (QQ.out.trans (gq.mono QQ.out.size)); clear gq QQ; have QQ := QN; clear QN)
    | ((with_reducible refine (ob_tick_nil n _).mono ?_); rintro e wq ⟨rfl, gq⟩; have QN := Lib.hid (QQ.out.trans (gq.mono QQ.out.size)); clear gq QQ; have QQ := QN; clear QN)
    | ((with_reducible refine (ob_ack_nil x n _).mono ?_); rintro e wq ⟨rfl, rfl⟩)
    | ((with_reducible refine (ob_finished_nil _).mono ?_); rintro e wq ⟨rfl, rfl⟩)
    | ((with_reducible refine (ob_room_nil _).mono ?_); rintro e wq ⟨rfl, rfl⟩)
    | ((with_reducible refine (ob_held_nil _).mono ?_); rintro e wq ⟨rfl, rfl⟩)
    | ((with_reducible refine (ob_awake _).mono ?_); rintro e wq ⟨rfl, gq⟩; have QN := Lib.hid (QQ.out.trans (gq.mono QQ.out.size)); clear gq QQ; have QQ := QN; clear QN))
  go_wp2_with fail
  go_ret
  exact ⟨rfl, B2.out.trans (QQ.out.mono B2.out.size)⟩
end Go.Proofs.YtodokgkchmpmnaaGreat

/- Plain lemma: a deed of the law on outbound, as an argument. No condition. -/
namespace Go.Proofs.YtodokgkchmpmnaaGreat
open Go.ChangeShapes Go.WideShapes Go.ChangeAt Go.RowKit

def Od27.In (x : Od27) : Prop := x = x
section
variable {H : Type} {enc : TypeId × Value → H} {w : World} {base : Nat} {held : Bool} {d : DataW H} {p : List MemPlace} {spare : Nat → Bool}
set_option maxRecDepth 100000 in
theorem od27_in {r : _root_.Go.Reach} {b0 : Nat} {v : Value} (hv : Value.okWide Tryz.prog w r b0 24 v) (h : DataW.Trod enc Tryz.prog w base spare held 24 v d p) : ∃ a : Od27, v = a.val ∧ a.In := by
  obtain ⟨a, e⟩ := od27_arg hv h
  exact ⟨a, e, rfl⟩
end
end Go.Proofs.YtodokgkchmpmnaaGreat

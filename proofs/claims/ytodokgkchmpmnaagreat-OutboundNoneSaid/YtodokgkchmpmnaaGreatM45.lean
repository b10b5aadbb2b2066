/- Proved: lemmas of one statement's proof, merged by program: what each part proves stands ahead of it. Conditions: those that the lemmas name. -/
import Derived.Test.YtodokgkchmpmnaaGreatM24
import Derived.Test.YtodokgkchmpmnaaGreatM43
import Derived.StillTailTactics
import Derived.IntWalk
import Derived.Deep.DeepCutAuto
import Derived.Deep.RegionHeld3
import Derived.Deep.QuietTactic

/- Plain lemmas on boxes that hold a datagram. No condition beyond those that each lemma names. -/
namespace Go.Proofs.YtodokgkchmpmnaaGreat
open Go.ChangeShapes Go.WideShapes Go.ChangeAt Go.RowKit

/-- no datagram. -/
def obZ : Dg := ⟨0, 0, 0, 0, 0, 0, 0, 0, ⟨#[]⟩, ⟨#[]⟩⟩
theorem ob_zbox (w : World) : ∃ W, W = w.alloc (.cells #[.int .i64 0, .int .i64 0, .int .u32 0, .int .i64 0, .int .i64 0, .int .i64 0, .int .i64 0, .int .i64 0, .string ⟨#[]⟩, .string ⟨#[]⟩] 27) ∧ At W w.heap.size 27 obZ.cells ∧ Below w.heap.size w W := ⟨_, rfl, At.new w 27 obZ.cells, (Below.refl _ _).alloc (Nat.le_refl _) _⟩
/-- a datagram, stored into its ten cells. -/
def obdset (W : World) (b : Nat) (d : Dg) : World := (((((((((W.setCell ⟨b, 0, none⟩ (.int .i64 d.kind)).setCell ⟨b, 1, none⟩ (.int .i64 d.stream)).setCell ⟨b, 2, none⟩ (.int .u32 d.block)).setCell ⟨b, 3, none⟩ (.int .i64 d.index)).setCell ⟨b, 4, none⟩ (.int .i64 d.k)).setCell ⟨b, 5, none⟩ (.int .i64 d.n)).setCell ⟨b, 6, none⟩ (.int .i64 d.len)).setCell ⟨b, 7, none⟩ (.int .i64 d.credit)).setCell ⟨b, 8, none⟩ (.string d.has)).setCell ⟨b, 9, none⟩ (.string d.body)
theorem obdset_at {W : World} {b : Nat} {t : TypeId} {d0 : Dg} (d : Dg) (A : At W b t d0.cells) : At (obdset W b d) b t d.cells := (((((((((A.set_ 0 _).set_ 1 _).set_ 2 _).set_ 3 _).set_ 4 _).set_ 5 _).set_ 6 _).set_ 7 _).set_ 8 _).set_ 9 _
theorem obdset_tn (W : World) (b : Nat) (d : Dg) : Tn (fun g => g = b) W (obdset W b d) := ((((((((((Tn.refl (fun g => g = b) W).set ⟨b, 0, none⟩ _ (fun _ => rfl)).set ⟨b, 1, none⟩ _ (fun _ => rfl)).set ⟨b, 2, none⟩ _ (fun _ => rfl)).set ⟨b, 3, none⟩ _ (fun _ => rfl)).set ⟨b, 4, none⟩ _ (fun _ => rfl)).set ⟨b, 5, none⟩ _ (fun _ => rfl)).set ⟨b, 6, none⟩ _ (fun _ => rfl)).set ⟨b, 7, none⟩ _ (fun _ => rfl)).set ⟨b, 8, none⟩ _ (fun _ => rfl)).set ⟨b, 9, none⟩ _ (fun _ => rfl)
theorem obdset_below {W w : World} {B b : Nat} (d : Dg) (h : Below B w W) (hw : B ≤ w.heap.size) (hb : B ≤ b) : Below B w (obdset W b d) := (obdset_tn W b d).below h (Nat.le_trans hw h.size) (fun i hi e => by rw [show i = b from e] at hi; omega)
theorem res_pop {T : Array Value} {W : World} {b : Nat} {d : Dg} {s : Bool} (h2 : T.getD 2 undef = .pointer (some ⟨b, 0, none⟩)) (h3 : T.getD 3 undef = .bool s) (A : At W b 27 d.cells) : (results Tryz.f4 T).run Tryz.prog W = .ok (.tuple #[d.val, .bool s]) W := by
  have h2' : T[2]?.getD undef = .pointer (some ⟨b, 0, none⟩) := by simpa using h2
  have h3' : T[3]?.getD undef = .bool s := by simpa using h3
  have c0 := A.cell 0 rfl
  have c1 := A.cell 1 rfl
  have c2 := A.cell 2 rfl
  have c3 := A.cell 3 rfl
  have c4 := A.cell 4 rfl
  have c5 := A.cell 5 rfl
  have c6 := A.cell 6 rfl
  have c7 := A.cell 7 rfl
  have c8 := A.cell 8 rfl
  have c9 := A.cell 9 rfl
  simp [results, Tryz.results4, h2', h3', c0, c1, c2, c3, c4, c5, c6, c7, c8, c9, go_sem, Dg.val]
theorem res_dgof {T : Array Value} {W : World} {b : Nat} {d : Dg} (h6 : T.getD 6 undef = .pointer (some ⟨b, 0, none⟩)) (A : At W b 27 d.cells) : (results Tryz.f17 T).run Tryz.prog W = .ok d.val W := by
  have h6' : T[6]?.getD undef = .pointer (some ⟨b, 0, none⟩) := by simpa using h6
  have c0 := A.cell 0 rfl
  have c1 := A.cell 1 rfl
  have c2 := A.cell 2 rfl
  have c3 := A.cell 3 rfl
  have c4 := A.cell 4 rfl
  have c5 := A.cell 5 rfl
  have c6 := A.cell 6 rfl
  have c7 := A.cell 7 rfl
  have c8 := A.cell 8 rfl
  have c9 := A.cell 9 rfl
  simp [results, Tryz.results17, h6', c0, c1, c2, c3, c4, c5, c6, c7, c8, c9, go_sem, Dg.val]
theorem res_sheaf {T : Array Value} {W : World} {b : Nat} {u : Value} {x y : Int} {s : Bool} (h4 : T.getD 4 undef = .pointer (some ⟨b, 0, none⟩)) (h5 : T.getD 5 undef = .bool s) (A : At W b 55 [u, .int .i64 x, .int .i64 y]) : (results Tryz.f16 T).run Tryz.prog W = .ok (.tuple #[.agg #[u, .int .i64 x, .int .i64 y], .bool s]) W := by
  have h4' : T[4]?.getD undef = .pointer (some ⟨b, 0, none⟩) := by simpa using h4
  have h5' : T[5]?.getD undef = .bool s := by simpa using h5
  have c0 := A.cell 0 rfl
  have c1 := A.cell 1 rfl
  have c2 := A.cell 2 rfl
  simp [results, Tryz.results16, h4', h5', c0, c1, c2, go_sem]
end Go.Proofs.YtodokgkchmpmnaaGreat

/- Proved: what each method of package outbound answers where there is none. No condition. -/
namespace Go.Proofs.YtodokgkchmpmnaaGreat
open Go.ChangeShapes Go.WideShapes Go.ChangeAt Go.RowKit

theorem ob_write_nil (s : ByteArray) (w : World) : Calls Tryz.prog 6 #[.pointer none, .string s] w fun e w' => e = .returned (.int .i64 0) ∧ w = w' := by
  go_enter Tryz.func6, Tryz.ntmps6
  go_wp2_with fail
  go_ret
  exact ⟨rfl, rfl⟩
theorem ob_close_nil (w : World) : Calls Tryz.prog 7 #[.pointer none] w fun e w' => e = .returned (.int .i64 17) ∧ w = w' := by
  go_enter Tryz.func7, Tryz.ntmps7
  go_wp2_with fail
  go_ret
  exact ⟨rfl, rfl⟩
theorem ob_fill_nil (n : Int) (w : World) : Calls Tryz.prog 8 #[.pointer none, .int .i64 n] w fun e w' => e = .returned (.slice none 0 0) ∧ w = w' := by
  go_enter Tryz.func8, Tryz.ntmps8
  go_wp2_with fail
  go_ret
  exact ⟨rfl, rfl⟩
theorem ob_nack_nil (x : Int) (s : ByteArray) (w : World) : Calls Tryz.prog 9 #[.pointer none, .int .u32 x, .string s] w fun e w' => e = .returned (.slice none 0 0) ∧ Below w.heap.size w w' := by
  go_enter Tryz.func9, Tryz.ntmps9
  go_wp2_with fail
  go_ret
  exact ⟨rfl, ((Below.refl _ _).alloc (Nat.le_refl _) _).alloc (by simp) _⟩
theorem ob_tick_nil (n : Int) (w : World) : Calls Tryz.prog 10 #[.pointer none, .int .i64 n] w fun e w' => e = .returned (.slice none 0 0) ∧ Below w.heap.size w w' := by
  go_enter Tryz.func10, Tryz.ntmps10
  go_wp2_with fail
  go_ret
  exact ⟨rfl, (Below.refl _ _).alloc (Nat.le_refl _) _⟩
theorem ob_ack_nil (x n : Int) (w : World) : Calls Tryz.prog 11 #[.pointer none, .int .u32 x, .int .i64 n] w fun e w' => e = .returned (.int .i64 0) ∧ w = w' := by
  go_enter Tryz.func11, Tryz.ntmps11
  go_wp2_with fail
  go_ret
  exact ⟨rfl, rfl⟩
theorem ob_fin_nil (w : World) : Calls Tryz.prog 5 #[.pointer none] w fun e w' => e = .returned (.tuple #[.int .u32 0, .bool false]) ∧ w = w' := by
  go_enter Tryz.func5, Tryz.ntmps5
  go_wp2_with fail
  go_ret2
  exact ⟨rfl, rfl⟩
theorem ob_finished_nil (w : World) : Calls Tryz.prog 12 #[.pointer none] w fun e w' => e = .returned (.bool false) ∧ w = w' := by
  go_enter Tryz.func12, Tryz.ntmps12
  go_wp2_with fail
  go_ret
  exact ⟨rfl, rfl⟩
theorem ob_room_nil (w : World) : Calls Tryz.prog 13 #[.pointer none] w fun e w' => e = .returned (.int .i64 0) ∧ w = w' := by
  go_enter Tryz.func13, Tryz.ntmps13
  go_wp2_with fail
  go_ret
  exact ⟨rfl, rfl⟩
theorem ob_held_nil (w : World) : Calls Tryz.prog 14 #[.pointer none] w fun e w' => e = .returned (.int .i64 0) ∧ w = w' := by
  go_enter Tryz.func14, Tryz.ntmps14
  go_wp2_with fail
  go_ret
  exact ⟨rfl, rfl⟩
set_option maxRecDepth 100000 in
set_option maxHeartbeats 1600000 in
theorem ob_pop_nil (w : World) : Calls Tryz.prog 4 #[.pointer none] w fun e w' => e = .returned (.tuple #[obZ.val, .bool false]) ∧ Below w.heap.size w w' := by
  obtain ⟨w1, HW, hx1, hb1⟩ := ob_zbox w
  have HX1 := Lib.hid hx1
  have HB1 := Lib.hid hb1
  clear hx1 hb1
  go_enter Tryz.func4, Tryz.ntmps4
  go_upto_region 1 with fail
  rw [← HW]; clear HW
  generalize hbx : w.heap.size = bx at *
  have HBX : Hid (w.heap.size = bx) := Lib.hid hbx
  clear hbx
  have f0 := HX1.out.free 0
  have f1 := HX1.out.free 1
  have f2 := HX1.out.free 2
  have f3 := HX1.out.free 3
  have f4 := HX1.out.free 4
  have f5 := HX1.out.free 5
  have f6 := HX1.out.free 6
  have f7 := HX1.out.free 7
  have f8 := HX1.out.free 8
  have f9 := HX1.out.free 9
  have c0 : w1.cell? ⟨bx, 0, none⟩ = some (.int .i64 0) := HX1.out.cell 0 rfl
  have c1 : w1.cell? ⟨bx, 1, none⟩ = some (.int .i64 0) := HX1.out.cell 1 rfl
  have c2 : w1.cell? ⟨bx, 2, none⟩ = some (.int .u32 0) := HX1.out.cell 2 rfl
  have c3 : w1.cell? ⟨bx, 3, none⟩ = some (.int .i64 0) := HX1.out.cell 3 rfl
  have c4 : w1.cell? ⟨bx, 4, none⟩ = some (.int .i64 0) := HX1.out.cell 4 rfl
  have c5 : w1.cell? ⟨bx, 5, none⟩ = some (.int .i64 0) := HX1.out.cell 5 rfl
  have c6 : w1.cell? ⟨bx, 6, none⟩ = some (.int .i64 0) := HX1.out.cell 6 rfl
  have c7 : w1.cell? ⟨bx, 7, none⟩ = some (.int .i64 0) := HX1.out.cell 7 rfl
  have c8 : w1.cell? ⟨bx, 8, none⟩ = some (.string ⟨#[]⟩) := HX1.out.cell 8 rfl
  have c9 : w1.cell? ⟨bx, 9, none⟩ = some (.string ⟨#[]⟩) := HX1.out.cell 9 rfl
  have HF : Hid (At (obdset w1 bx obZ) bx 27 obZ.cells ∧ Below bx w (obdset w1 bx obZ)) := Lib.hid ⟨obdset_at (d0 := obZ) obZ HX1.out, obdset_below obZ HB1.out (by rw [HBX.out]; exact Nat.le_refl _) (Nat.le_refl _)⟩
  go_wp2_with fail
  change bodyPost _ _ _ _ _ (obdset w1 bx obZ)
  generalize obdset w1 bx obZ = w3 at *
  exact bodyPost_ret (v := .tuple #[obZ.val, .bool false]) (res_pop rfl rfl HF.out.1) rfl ⟨rfl, by rw [HBX.out]; exact HF.out.2⟩
end Go.Proofs.YtodokgkchmpmnaaGreat

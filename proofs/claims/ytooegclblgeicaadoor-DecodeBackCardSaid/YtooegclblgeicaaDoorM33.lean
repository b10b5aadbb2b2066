/- Proved: lemmas of one statement's proof, merged by program: what each part proves stands ahead of it. Conditions: those that the lemmas name. -/
import Derived.Test.YtooegclblgeicaaDoorM26
import Derived.Test.YtooegclblgeicaaDoorM27
import Derived.Test.YtooegclblgeicaaDoorM30
import Derived.Laws.StructEq
import Derived.Test.YtooegclblgeicaaDoorM32
import Derived.Deep.RegionHeld3

/- Proved: the laws' own first calls of package decode come out as they should. No condition. -/
namespace Go.Proofs.YtooegclblgeicaaDoor
open Go.ChangeShapes Go.WideShapes Go.ChangeAt Go.RowKit

theorem shards_as (s : ByteArray) (k r : Int) (o : List ByteArray) (m : Nat) (z : Int) (w : World) (hs : s.size ≤ maxLen) (ho : shO s k r = o) (hm : shM s.size k r = m) (hz : shE s.size k r = z) :
    Calls Tryd.prog 6 #[.string s, .int .i64 k, .int .i64 r] w (GivesSh w o m z) := by
  rw [← ho, ← hm, ← hz]; exact dshards_any s k r w hs
theorem eq_result (s b z : Int) (t : ByteArray) (w : World) : (binOp .eql 42 (rval s b t z) (rval s b t z)).run Tryd.prog w = .ok (.bool true) w := by
  rw [run_eql_struct, run_equalIn_agg w _ 42 _ _ (by kernel_rfl) (by kernel_rfl)]
  simp [go_sem, Tryd.underlying42, Tryd.underlying40]
theorem neq_result (s b z : Int) (t : ByteArray) (w : World) : (binOp .neq 42 (rval s b t z) (rval s b t z)).run Tryd.prog w = .ok (.bool false) w := by
  rw [run_neq_struct, run_equalIn_agg w _ 42 _ _ (by kernel_rfl) (by kernel_rfl)]
  simp [go_sem, Tryd.underlying42, Tryd.underlying40]
theorem sh_at_new (W : World) (l : List Shd) (a n : Nat) (C : Array Value) (ha : a = W.heap.size) (hn : l.length = n) (hC : C = (hcells l).toArray) : Sh (W.alloc (.cells C 37)) (some ⟨a, 0, none⟩) n l := by
  subst ha; subst hn; subst hC; exact sh_new W l
abbrev tk : ByteArray := ⟨#[107]⟩
theorem shO_ab : shO tab2 4 1 = [ta, tb, tk] := by decide +kernel
theorem ab_did {w : World} {A : Option Addr} (hl : Sh w A 2 [(2, tk), (1, tb)]) : DoIs 2 3 2 [(2, tk), (1, tb)] tab2 0 := by
  have h := back_is (w := w) (A := A) (j := 2) (s := tab2) (k := 4) (r := 1) (m := 2) (O := [ta, tb, tk]) (xs := [2, 1]) (by decide) (by decide) shO_ab.symm hl (by decide)
  have e : (if 2 ≤ (accL (gotL (2 + 1) [ta, tb, tk] [2, 1])).length then tab2 else S0) = tab2 := by decide +kernel
  have e2 : (if 2 ≤ (accL (gotL (2 + 1) [ta, tb, tk] [2, 1])).length then (0 : Int) else 15) = 0 := by decide +kernel
  rw [e, e2] at h
  exact h
theorem none_did : DoIs 2 3 2 [] S0 15 := ⟨[], DcIs.none (by decide), .inl ⟨by decide, by decide, rfl⟩⟩
/-- a box with a result, made since w. -/
def Bx (w W : World) (b : Nat) (s k : Int) (t : ByteArray) (z : Int) : Prop := At W b 42 (rcells s k t z) ∧ w.heap.size ≤ b

set_option maxRecDepth 100000 in
set_option maxHeartbeats 6400000 in
theorem dawake_any (w : World) :
    Calls Tryd.prog 5 #[] w fun e w' => e = .returned (.bool true) ∧ Below w.heap.size w w' := by
  go_enter Tryd.func5, Tryd.ntmps5
  go_wp2_with fail
  refine (shards_as tab2 4 1 [ta, tb, tk] 2 0 _ (by decide) shO_ab (by decide) (by decide)).mono ?_; rintro e w1 ⟨A1, n1, c1, rfl, h1, g1⟩
  obtain rfl : 3 = n1 := h1.len
  have H1 := Lib.hid h1; have G1 := Lib.hid g1
  clear h1 g1
  go_wp2_with fail
  refine (shards_as S0 4 1 [] 0 3 _ (by decide) (by decide) (by decide) (by decide)).mono ?_; rintro e w2 ⟨A2, n2, c2, rfl, h2, g2⟩
  have H2 := Lib.hid (H1.out.below g2); have G2 := Lib.hid (G1.out.trans (g2.mono G1.out.size))
  clear h2 g2 H1 G1
  obtain ⟨a0, rfl, hlt, q0⟩ := H2.out.at_ (k := 0) (by decide)
  obtain ⟨_, e1, _, q1⟩ := H2.out.at_ (k := 1) (by decide)
  cases e1
  obtain ⟨_, e1, _, q2⟩ := H2.out.at_ (k := 2) (by decide)
  cases e1
  have HLt := Lib.hid hlt
  have r1 : (w2.alloc (.cells #[.int .i64 0, .int .u32 0, .string ⟨#[]⟩, .int .i64 0] 42)).cell? (a0.add 1) = some (.string tb) := (((Below.refl w2.heap.size w2).alloc (Nat.le_refl _) _).cell (p := a0.add 1) (by rw [add_block]; exact hlt)).trans q1
  have r2 : (w2.alloc (.cells #[.int .i64 0, .int .u32 0, .string ⟨#[]⟩, .int .i64 0] 42)).cell? (a0.add 2) = some (.string tk) := (((Below.refl w2.heap.size w2).alloc (Nat.le_refl _) _).cell (p := a0.add 2) (by rw [add_block]; exact hlt)).trans q2
  replace q1 : w2.cell? (a0.add 1) = some (.string tb) := q1
  replace q2 : w2.cell? (a0.add 2) = some (.string tk) := q2
  rw [show a0.add 1 = ⟨a0.block, a0.off + 1, none⟩ from rfl] at q1 r1
  rw [show a0.add 2 = ⟨a0.block, a0.off + 2, none⟩ from rfl] at q2 r2
  have HZ : Hid (∀ W a (h : Sh W (some ⟨a, 0, none⟩) 2 [(2, tk), (1, tb)]) (g : Below w2.heap.size w2 W), Calls Tryd.prog 9 #[.agg #[.int .i64 2, .int .u32 5, .int .i64 2, .int .i64 3, .int .i64 2, .slice (some ⟨a, 0, none⟩) 2 2]] W fun e w3 => e = .returned (rval 2 5 tab2 0) ∧ Below w2.heap.size w2 w3 ∧ Below W.heap.size W w3) := Lib.hid fun W a h g =>
    (do_any ⟨2, 5, 2, 3, 2, some ⟨a, 0, none⟩, 2, 2⟩ [(2, tk), (1, tb)] tab2 0 W h (show 2 ≤ 100 by decide) (ab_did h)).mono fun e w3 q =>
      ⟨q.1, g.trans (q.2.mono g.size), q.2⟩
  have B1 : Below w2.heap.size w2 (w2.alloc (.cells #[.int .i64 2, .string tk, .int .i64 1, .string tb] 37)).drew := ((Below.refl w2.heap.size w2).alloc (Nat.le_refl _) _).drew
  have B2 : Below w2.heap.size w2 ((w2.alloc (.cells #[.int .i64 0, .int .u32 0, .string ⟨#[]⟩, .int .i64 0] 42)).alloc (.cells #[.int .i64 2, .string tk, .int .i64 1, .string tb] 37)).drew := (((Below.refl w2.heap.size w2).alloc (Nat.le_refl _) _).alloc (by simp) _).drew
  have B3 : Below w2.heap.size w2 ((w2.alloc (.cells #[.int .i64 2, .string tk, .int .i64 1, .string tb] 37)).alloc (.cells #[.int .i64 0, .int .u32 0, .string ⟨#[]⟩, .int .i64 0] 42)).drew := (((Below.refl w2.heap.size w2).alloc (Nat.le_refl _) _).alloc (by simp) _).drew
  have A2' : At ((w2.alloc (.cells #[.int .i64 0, .int .u32 0, .string ⟨#[]⟩, .int .i64 0] 42)).alloc (.cells #[.int .i64 2, .string tk, .int .i64 1, .string tb] 37)).drew w2.heap.size 42 (rcells 0 0 S0 0) := (show At (w2.alloc (.cells #[.int .i64 0, .int .u32 0, .string ⟨#[]⟩, .int .i64 0] 42)) w2.heap.size 42 (rcells 0 0 S0 0) from At.new w2 42 (rcells 0 0 S0 0)).alloc _
  have A3' : At ((w2.alloc (.cells #[.int .i64 2, .string tk, .int .i64 1, .string tb] 37)).alloc (.cells #[.int .i64 0, .int .u32 0, .string ⟨#[]⟩, .int .i64 0] 42)).drew (w2.heap.size + 1) 42 (rcells 0 0 S0 0) := by
    have h := At.new (w2.alloc (.cells #[.int .i64 2, .string tk, .int .i64 1, .string tb] 37)) 42 (rcells 0 0 S0 0)
    rw [show (w2.alloc (.cells #[.int .i64 2, .string tk, .int .i64 1, .string tb] 37)).heap.size = w2.heap.size + 1 by simp] at h
    exact h
  have N1 : Sh (w2.alloc (.cells #[.int .i64 2, .string tk, .int .i64 1, .string tb] 37)).drew (some ⟨w2.heap.size, 0, none⟩) 2 [(2, tk), (1, tb)] := sh_at_new w2 _ _ _ _ rfl rfl rfl
  have N2 : Sh ((w2.alloc (.cells #[.int .i64 0, .int .u32 0, .string ⟨#[]⟩, .int .i64 0] 42)).alloc (.cells #[.int .i64 2, .string tk, .int .i64 1, .string tb] 37)).drew (some ⟨w2.heap.size + 1, 0, none⟩) 2 [(2, tk), (1, tb)] := sh_at_new (w2.alloc (.cells #[.int .i64 0, .int .u32 0, .string ⟨#[]⟩, .int .i64 0] 42)) _ _ _ _ (by simp) rfl rfl
  have N3 : Sh ((w2.alloc (.cells #[.int .i64 2, .string tk, .int .i64 1, .string tb] 37)).alloc (.cells #[.int .i64 0, .int .u32 0, .string ⟨#[]⟩, .int .i64 0] 42)).drew (some ⟨w2.heap.size, 0, none⟩) 2 [(2, tk), (1, tb)] := (sh_at_new w2 _ _ _ _ rfl rfl rfl : Sh (w2.alloc (.cells #[.int .i64 2, .string tk, .int .i64 1, .string tb] 37)) (some ⟨w2.heap.size, 0, none⟩) 2 [(2, tk), (1, tb)]).below ((Below.refl (w2.alloc (.cells #[.int .i64 2, .string tk, .int .i64 1, .string tb] 37)).heap.size (w2.alloc (.cells #[.int .i64 2, .string tk, .int .i64 1, .string tb] 37))).alloc (Nat.le_refl _) _).drew
  have HC1 := Lib.hid (HZ.out _ _ N1 B1)
  have HC2 := Lib.hid ((HZ.out _ _ N2 B2).mono (fun e w3 q => (⟨q.1, q.2.1, A2'.below q.2.2 A2'.lt⟩ : e = .returned (rval 2 5 tab2 0) ∧ Below w2.heap.size w2 w3 ∧ At w3 w2.heap.size 42 (rcells 0 0 S0 0))))
  have HC3 := Lib.hid ((HZ.out _ _ N3 B3).mono (fun e w3 q => (⟨q.1, q.2.1, A3'.below q.2.2 A3'.lt⟩ : e = .returned (rval 2 5 tab2 0) ∧ Below w2.heap.size w2 w3 ∧ At w3 (w2.heap.size + 1) 42 (rcells 0 0 S0 0))))
  have HSz := Lib.hid G2.out.size
  clear hlt q0 HZ B1 B2 B3 A2' A3' N1 N2 N3
  go_upto_region 4 with fail
  go_cut [7] (fun v wx => ∃ b, v = .pointer (some ⟨b, 0, none⟩) ∧ Bx w wx b 2 5 tab2 0 ∧ Ss wx (some a0) 3 [ta, tb, tk] ∧ Below w.heap.size w wx)
  case first =>
    go_region_with (first
      | (go_at_call 9; (with_reducible refine HC1.out.mono ?_); rintro e w3 ⟨rfl, hq, hb⟩; have HQ3 := Lib.hid hq; clear hq hb)
      | (go_at_call 9; (with_reducible refine HC2.out.mono ?_); rintro e w3 ⟨rfl, hq, hb⟩; have HQ3 := Lib.hid hq; have HT3 : Hid (∀ a b c d, Below w2.heap.size w2 (set4 w3 w2.heap.size a b c d)) := Lib.hid fun a b c d => hq.grown (set4_grown w3 w2.heap.size a b c d) hq.size (fun k e => by injection e with e; omega); have HX3 := Lib.hid hb; have y0 := hb.cell 0 rfl; have y1 := hb.cell 1 rfl; have y2 := hb.cell 2 rfl; have y3 := hb.cell 3 rfl; have f0 := hb.free 0; have f1 := hb.free 1; have f2 := hb.free 2; have f3 := hb.free 3; clear hq hb)
      | (go_at_call 9; (with_reducible refine HC3.out.mono ?_); rintro e w3 ⟨rfl, hq, hb⟩; have HQ3 := Lib.hid hq; have HT3 : Hid (∀ a b c d, Below w2.heap.size w2 (set4 w3 (w2.heap.size + 1) a b c d)) := Lib.hid fun a b c d => hq.grown (set4_grown w3 (w2.heap.size + 1) a b c d) hq.size (fun k e => by injection e with e; omega); have HX3 := Lib.hid hb; have y0 := hb.cell 0 rfl; have y1 := hb.cell 1 rfl; have y2 := hb.cell 2 rfl; have y3 := hb.cell 3 rfl; have f0 := hb.free 0; have f1 := hb.free 1; have f2 := hb.free 2; have f3 := hb.free 3; clear hq hb))
    all_goals
      go_wp2_with fail
      go_meet
      refine ⟨_, rfl, ?_⟩
      first
        | exact ⟨⟨set4_at HX3.out, by have := HSz.out; omega⟩, H2.out.below (HT3.out _ _ _ _), G2.out.trans ((HT3.out _ _ _ _).mono G2.out.size)⟩
        | exact ⟨⟨At.new w3 42 (rcells 2 5 tab2 0), Nat.le_trans HSz.out HQ3.out.size⟩, H2.out.below (HQ3.out.alloc HQ3.out.size _), G2.out.trans ((HQ3.out.alloc HQ3.out.size _).mono G2.out.size)⟩
  case rest =>
    obtain ⟨b, rfl, hbx, hss, hbel⟩ := hcut
    rename World => w3
    clear r1 r2 q1 q2 HC1 HC2 HC3 H2 G2 HSz HLt
    have hA := hbx.1
    have HSS := Lib.hid hss
    have HBe := Lib.hid hbel
    have HA := Lib.hid hA
    have he := eq_result
    clear hbx hss hbel hA
    go_wp2_with fail
    refine (do_any ⟨0, 0, 2, 3, 2, none, 0, 0⟩ [] S0 15 w3 (Sh.nil _ _) (by decide) none_did).mono ?_; rintro e w4 ⟨rfl, hb4⟩
    have T4 : Below w3.heap.size w3 (w4.alloc (.cells #[.int .i64 0, .int .u32 0, .string S0, .int .i64 15] 42)) := hb4.alloc hb4.size _
    have hN := At.new w4 42 (rcells 0 0 S0 15)
    have z2 : (w4.alloc (.cells #[.int .i64 0, .int .u32 0, .string S0, .int .i64 15] 42)).cell? ⟨w4.heap.size, 3, none⟩ = some (.int .i64 15) := hN.cell 3 rfl
    have hA := HA.out.below T4 HA.out.lt
    have HS5 := HSS.out.below T4
    have HB5 := Lib.hid (HBe.out.trans (T4.mono HBe.out.size))
    have x0 := hA.cell 0 rfl
    have x1 := hA.cell 1 rfl
    have x2 := hA.cell 2 rfl
    have x3 := hA.cell 3 rfl
    obtain ⟨_, e1, hlt, q0⟩ := HS5.at_ (k := 0) (by decide)
    cases e1
    obtain ⟨_, e1, _, q1⟩ := HS5.at_ (k := 1) (by decide)
    cases e1
    rw [show a0.add 1 = ⟨a0.block, a0.off + 1, none⟩ from rfl] at q1
    rw [Addr.add_zero' a0] at q0
    replace q0 : (w4.alloc (.cells #[.int .i64 0, .int .u32 0, .string S0, .int .i64 15] 42)).cell? a0 = some (.string ta) := q0
    replace q1 : (w4.alloc (.cells #[.int .i64 0, .int .u32 0, .string S0, .int .i64 15] 42)).cell? ⟨a0.block, a0.off + 1, none⟩ = some (.string tb) := q1
    clear hb4 T4 hN hA HS5
    generalize hgw : w4.alloc (.cells #[.int .i64 0, .int .u32 0, .string S0, .int .i64 15] 42) = w5 at *
    go_upto_region 7 with fail
    go_wp2_with fail
    refine (all_any none 0 0 (fun _ => ⟨0, 0, 0, 0, 0, none, 0, 0⟩) (fun _ => []) (fun _ => S0) (fun _ => 0) w5 (fun h => absurd h (by decide)) (by decide) (fun j h => absurd h (by omega)) (fun j h => absurd h (by omega))).mono ?_; rintro e w6 ⟨g6, rfl, _, hb6⟩
    have HB6 := Lib.hid (HB5.out.trans (hb6.mono HB5.out.size))
    clear hb6
    go_wp2_with fail
    go_ret
    exact ⟨rfl, HB6.out⟩
end Go.Proofs.YtooegclblgeicaaDoor

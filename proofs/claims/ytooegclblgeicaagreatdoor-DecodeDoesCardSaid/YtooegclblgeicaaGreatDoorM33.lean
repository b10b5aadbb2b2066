/- Proved: lemmas of one statement's proof, merged by program: what each part proves stands ahead of it. Conditions: those that the lemmas name. -/
import Derived.Test.YtooegclblgeicaaGreatDoorM26
import Derived.Test.YtooegclblgeicaaGreatDoorM27
import Derived.Test.YtooegclblgeicaaGreatDoorM30
import Derived.Laws.StructEq
import Derived.Test.YtooegclblgeicaaGreatDoorM32
import Derived.Deep.RegionHeld3

/- Proved: the laws' own first calls of package decode come out as they should. No condition. -/
namespace Go.Proofs.YtooegclblgeicaaGreatDoor
open Go.ChangeShapes Go.WideShapes Go.ChangeAt Go.RowKit

theorem shards_as (s : ByteArray) (k r : Int) (o : List ByteArray) (m : Nat) (z : Int) (w : World) (hs : s.size ≤ maxLen) (ho : shO s k r = o) (hm : shM s.size k r = m) (hz : shE s.size k r = z) :
    Calls Tryz.prog 9 #[.string s, .int .i64 k, .int .i64 r] w (GivesSh w o m z) := by
  rw [← ho, ← hm, ← hz]; exact dshards_any s k r w hs
theorem eq_result (s b z : Int) (t : ByteArray) (w : World) : (binOp .eql 35 (rval s b t z) (rval s b t z)).run Tryz.prog w = .ok (.bool true) w := by
  rw [run_eql_struct, run_equalIn_agg w _ 35 _ _ (by kernel_rfl) (by kernel_rfl)]
  simp [go_sem, Tryz.underlying35, Tryz.underlying27]
theorem neq_result (s b z : Int) (t : ByteArray) (w : World) : (binOp .neq 35 (rval s b t z) (rval s b t z)).run Tryz.prog w = .ok (.bool false) w := by
  rw [run_neq_struct, run_equalIn_agg w _ 35 _ _ (by kernel_rfl) (by kernel_rfl)]
  simp [go_sem, Tryz.underlying35, Tryz.underlying27]
theorem sh_at_new (W : World) (l : List Shd) (a n : Nat) (C : Array Value) (ha : a = W.heap.size) (hn : l.length = n) (hC : C = (hcells l).toArray) : Sh (W.alloc (.cells C 42)) (some ⟨a, 0, none⟩) n l := by
  subst ha; subst hn; subst hC; exact sh_new W l
abbrev tk : ByteArray := ⟨#[107]⟩
theorem shO_ab : shO tab2 4 1 = [ta, tb, tk] := by decide +kernel
theorem ab_did {w : World} {A : Option Addr} (hl : Sh w A 2 [(2, tk), (1, tb)]) : DoIs 2 3 2 [(2, tk), (1, tb)] tab2 0 := by
  have h := back_is (w := w) (A := A) (j := 2) (s := tab2) (k := 4) (r := 1) (m := 2) (O := [ta, tb, tk]) (xs := [2, 1]) (by decide) (by decide) shO_ab.symm hl (by decide)
  have e : (if 2 ≤ (accL (gotL (2 + 1) [ta, tb, tk] [2, 1])).length then tab2 else S0) = tab2 := by decide +kernel
  have e2 : (if 2 ≤ (accL (gotL (2 + 1) [ta, tb, tk] [2, 1])).length then (0 : Int) else 15) = 0 := by decide +kernel
  rw [e, e2] at h
  exact h
theorem none_did : DoIs 2 3 2 [] S0 15 := ⟨[], DcIs.none (by decide), .inl ⟨by decide, by decide, rfl⟩⟩
/-- a box with a result, made since w. -/
def Bx (w W : World) (b : Nat) (s k : Int) (t : ByteArray) (z : Int) : Prop := At W b 35 (rcells s k t z) ∧ w.heap.size ≤ b

set_option maxRecDepth 100000 in
set_option maxHeartbeats 6400000 in
theorem dawake_any (w : World) :
    Calls Tryz.prog 4 #[] w fun e w' => e = .returned (.bool true) ∧ Below w.heap.size w w' := by
  go_enter Tryz.func4, Tryz.ntmps4
  go_wp2_with fail
  refine (shards_as tab2 4 1 [ta, tb, tk] 2 0 _ (by decide) shO_ab (by decide) (by decide)).mono ?_; rintro e w1 ⟨A1, n1, c1, rfl, h1, g1⟩
  obtain rfl : 3 = n1 := h1.len
  have H1 := Lib.hid h1; have G1 := Lib.hid g1
  clear h1 g1
  go_wp2_with fail
  refine (shards_as S0 4 1 [] 0 3 _ (by decide) (by decide) (by decide) (by decide)).mono ?_; rintro e w2 ⟨A2, n2, c2, rfl, h2, g2⟩
  have H2 := Lib.hid (H1.out.below g2); have G2 := Lib.hid (G1.out.trans (g2.mono G1.out.size))
  clear h2 g2 H1 G1
  obtain ⟨a0, rfl, hlt, q0⟩ := H2.out.at_ (k := 0) (by decide)
  obtain ⟨_, e1, _, q1⟩ := H2.out.at_ (k := 1) (by decide)
  cases e1
  obtain ⟨_, e1, _, q2⟩ := H2.out.at_ (k := 2) (by decide)
  cases e1
  have HLt := Lib.hid hlt
  have r1 : (w2.alloc (.cells #[.int .i64 0, .int .u32 0, .string ⟨#[]⟩, .int .i64 0] 35)).cell? (a0.add 1) = some (.string tb) := (((Below.refl w2.heap.size w2).alloc (Nat.le_refl _) _).cell (p := a0.add 1) (by rw [add_block]; exact hlt)).trans q1
  have r2 : (w2.alloc (.cells #[.int .i64 0, .int .u32 0, .string ⟨#[]⟩, .int .i64 0] 35)).cell? (a0.add 2) = some (.string tk) := (((Below.refl w2.heap.size w2).alloc (Nat.le_refl _) _).cell (p := a0.add 2) (by rw [add_block]; exact hlt)).trans q2
  replace q1 : w2.cell? (a0.add 1) = some (.string tb) := q1
  replace q2 : w2.cell? (a0.add 2) = some (.string tk) := q2
  rw [show a0.add 1 = ⟨a0.block, a0.off + 1, none⟩ from rfl] at q1 r1
  rw [show a0.add 2 = ⟨a0.block, a0.off + 2, none⟩ from rfl] at q2 r2
  have HZ : Hid (∀ W a (h : Sh W (some ⟨a, 0, none⟩) 2 [(2, tk), (1, tb)]) (g : Below w2.heap.size w2 W), Calls Tryz.prog 8 #[.agg #[.int .i64 2, .int .u32 5, .int .i64 2, .int .i64 3, .int .i64 2, .slice (some ⟨a, 0, none⟩) 2 2]] W fun e w3 => e = .returned (rval 2 5 tab2 0) ∧ Below w2.heap.size w2 w3 ∧ Below W.heap.size W w3) := Lib.hid fun W a h g =>
    (do_any ⟨2, 5, 2, 3, 2, some ⟨a, 0, none⟩, 2, 2⟩ [(2, tk), (1, tb)] tab2 0 W h (show 2 ≤ 100 by decide) (ab_did h)).mono fun e w3 q =>
      ⟨q.1, g.trans (q.2.mono g.size), q.2⟩
  have B1 : Below w2.heap.size w2 (w2.alloc (.cells #[.int .i64 2, .string tk, .int .i64 1, .string tb] 42)).drew := ((Below.refl w2.heap.size w2).alloc (Nat.le_refl _) _).drew
  have B2 : Below w2.heap.size w2 ((w2.alloc (.cells #[.int .i64 0, .int .u32 0, .string ⟨#[]⟩, .int .i64 0] 35)).alloc (.cells #[.int .i64 2, .string tk, .int .i64 1, .string tb] 42)).drew := (((Below.refl w2.heap.size w2).alloc (Nat.le_refl _) _).alloc (by simp) _).drew
  have B3 : Below w2.heap.size w2 ((w2.alloc (.cells #[.int .i64 2, .string tk, .int .i64 1, .string tb] 42)).alloc (.cells #[.int .i64 0, .int .u32 0, .string ⟨#[]⟩, .int .i64 0] 35)).drew := (((Below.refl w2.heap.size w2).alloc (Nat.le_refl _) _).alloc (by simp) _).drew
  have A2' : At ((w2.alloc (.cells #[.int .i64 0, .int .u32 0, .string ⟨#[]⟩, .int .i64 0] 35)).alloc (.cells #[.int .i64 2, .string tk, .int .i64 1, .string tb] 42)).drew w2.heap.size 35 (rcells 0 0 S0 0) := (show At (w2.alloc (.cells #[.int .i64 0, .int .u32 0, .string ⟨#[]⟩, .int .i64 0] 35)) w2.heap.size 35 (rcells 0 0 S0 0) from At.new w2 35 (rcells 0 0 S0 0)).alloc _
  have A3' : At ((w2.alloc (.cells #[.int .i64 2, .string tk, .int .i64 1, .string tb] 42)).alloc (.cells #[.int .i64 0, .int .u32 0, .string ⟨#[]⟩, .int .i64 0] 35)).drew (w2.heap.size + 1) 35 (rcells 0 0 S0 0) := by
    have h := At.new (w2.alloc (.cells #[.int .i64 2, .string tk, .int .i64 1, .string tb] 42)) 35 (rcells 0 0 S0 0)
    rw [show (w2.alloc (.cells #[.int .i64 2, .string tk, .int .i64 1, .string tb] 42)).heap.size = w2.heap.size + 1 by simp] at h
    exact h
  have N1 : Sh (w2.alloc (.cells #[.int .i64 2, .string tk, .int .i64 1, .string tb] 42)).drew (some ⟨w2.heap.size, 0, none⟩) 2 [(2, tk), (1, tb)] := sh_at_new w2 _ _ _ _ rfl rfl rfl
  have N2 : Sh ((w2.alloc (.cells #[.int .i64 0, .int .u32 0, .string ⟨#[]⟩, .int .i64 0] 35)).alloc (.cells #[.int .i64 2, .string tk, .int .i64 1, .string tb] 42)).drew (some ⟨w2.heap.size + 1, 0, none⟩) 2 [(2, tk), (1, tb)] := sh_at_new (w2.alloc (.cells #[.int .i64 0, .int .u32 0, .string ⟨#[]⟩, .int .i64 0] 35)) _ _ _ _ (by simp) rfl rfl
  have N3 : Sh ((w2.alloc (.cells #[.int .i64 2, .string tk, .int .i64 1, .string tb] 42)).alloc (.cells #[.int .i64 0, .int .u32 0, .string ⟨#[]⟩, .int .i64 0] 35)).drew (some ⟨w2.heap.size, 0, none⟩) 2 [(2, tk), (1, tb)] := (sh_at_new w2 _ _ _ _ rfl rfl rfl : Sh (w2.alloc (.cells #[.int .i64 2, .string tk, .int .i64 1, .string tb] 42)) (some ⟨w2.heap.size, 0, none⟩) 2 [(2, tk), (1, tb)]).below ((Below.refl (w2.alloc (.cells #[.int .i64 2, .string tk, .int .i64 1, .string tb] 42)).heap.size (w2.alloc (.cells #[.int .i64 2, .string tk, .int .i64 1, .string tb] 42))).alloc (Nat.le_refl _) _).drew
  have HC1 := Lib.hid (HZ.out _ _ N1 B1)
  have HC2 := Lib.hid ((HZ.out _ _ N2 B2).mono (fun e w3 q => (⟨q.1, q.2.1, A2'.below q.2.2 A2'.lt⟩ : e = .returned (rval 2 5 tab2 0) ∧ Below w2.heap.size w2 w3 ∧ At w3 w2.heap.size 35 (rcells 0 0 S0 0))))
  have HC3 := Lib.hid ((HZ.out _ _ N3 B3).mono (fun e w3 q => (⟨q.1, q.2.1, A3'.below q.2.2 A3'.lt⟩ : e = .returned (rval 2 5 tab2 0) ∧ Below w2.heap.size w2 w3 ∧ At w3 (w2.heap.size + 1) 35 (rcells 0 0 S0 0))))
  have HSz := Lib.hid G2.out.size
  clear hlt q0 HZ B1 B2 B3 A2' A3' N1 N2 N3
  go_upto_region 4 with fail
  go_cut [7] (fun v wx => ∃ b, v = .pointer (some ⟨b, 0, none⟩) ∧ Bx w wx b 2 5 tab2 0 ∧ Ss wx (some a0) 3 [ta, tb, tk] ∧ Below w.heap.size w wx)
  case first =>
    go_region_with (first
      | (go_at_call 8; (with_reducible refine HC1.out.mono ?_); rintro e w3 ⟨rfl, hq, hb⟩; have HQ3 := Lib.hid hq; clear hq hb)
      | (go_at_call 8; (with_reducible refine HC2.out.mono ?_); rintro e w3 ⟨rfl, hq, hb⟩; have HQ3 := Lib.hid hq; have HT3 : Hid (∀ a b c d, Below w2.heap.size w2 (set4 w3 w2.heap.size a b c d)) := Lib.hid fun a b c d => hq.grown (set4_grown w3 w2.heap.size a b c d) hq.size (fun k e => by injection e with e; omega); have HX3 := Lib.hid hb; have y0 := hb.cell 0 rfl; have y1 := hb.cell 1 rfl; have y2 := hb.cell 2 rfl; have y3 := hb.cell 3 rfl; have f0 := hb.free 0; have f1 := hb.free 1; have f2 := hb.free 2; have f3 := hb.free 3; clear hq hb)
      | (go_at_call 8; (with_reducible refine HC3.out.mono ?_); rintro e w3 ⟨rfl, hq, hb⟩; have HQ3 := Lib.hid hq; have HT3 : Hid (∀ a b c d, Below w2.heap.size w2 (set4 w3 (w2.heap.size + 1) a b c d)) := Lib.hid fun a b c d => hq.grown (set4_grown w3 (w2.heap.size + 1) a b c d) hq.size (fun k e => by injection e with e; omega); have HX3 := Lib.hid hb; have y0 := hb.cell 0 rfl; have y1 := hb.cell 1 rfl; have y2 := hb.cell 2 rfl; have y3 := hb.cell 3 rfl; have f0 := hb.free 0; have f1 := hb.free 1; have f2 := hb.free 2; have f3 := hb.free 3; clear hq hb))
    all_goals
      go_wp2_with fail
      go_meet
      refine ⟨_, rfl, ?_⟩
      first
        | exact ⟨⟨set4_at HX3.out, by have := HSz.out; omega⟩, H2.out.below (HT3.out _ _ _ _), G2.out.trans ((HT3.out _ _ _ _).mono G2.out.size)⟩
        | exact ⟨⟨At.new w3 35 (rcells 2 5 tab2 0), Nat.le_trans HSz.out HQ3.out.size⟩, H2.out.below (HQ3.out.alloc HQ3.out.size _), G2.out.trans ((HQ3.out.alloc HQ3.out.size _).mono G2.out.size)⟩
  case rest =>
    obtain ⟨b, rfl, hbx, hss, hbel⟩ := hcut
    rename World => w3
    clear r1 r2 q1 q2 HC1 HC2 HC3 H2 G2 HSz HLt
    have hA := hbx.1
    have HSS := Lib.hid hss
    have HBe := Lib.hid hbel
    have HA := Lib.hid hA
    have he := eq_result
    clear hbx hss hbel hA
    go_wp2_with fail
    refine (do_any ⟨0, 0, 2, 3, 2, none, 0, 0⟩ [] S0 15 w3 (Sh.nil _ _) (by decide) none_did).mono ?_; rintro e w4 ⟨rfl, hb4⟩
    have T4 : Below w3.heap.size w3 (w4.alloc (.cells #[.int .i64 0, .int .u32 0, .string S0, .int .i64 15] 35)) := hb4.alloc hb4.size _
    have hN := At.new w4 35 (rcells 0 0 S0 15)
    have z2 : (w4.alloc (.cells #[.int .i64 0, .int .u32 0, .string S0, .int .i64 15] 35)).cell? ⟨w4.heap.size, 3, none⟩ = some (.int .i64 15) := hN.cell 3 rfl
    have hA := HA.out.below T4 HA.out.lt
    have HS5 := HSS.out.below T4
    have HB5 := Lib.hid (HBe.out.trans (T4.mono HBe.out.size))
    have x0 := hA.cell 0 rfl
    have x1 := hA.cell 1 rfl
    have x2 := hA.cell 2 rfl
    have x3 := hA.cell 3 rfl
    obtain ⟨_, e1, hlt, q0⟩ := HS5.at_ (k := 0) (by decide)
    cases e1
    obtain ⟨_, e1, _, q1⟩ := HS5.at_ (k := 1) (by decide)
    cases e1
    rw [show a0.add 1 = ⟨a0.block, a0.off + 1, none⟩ from rfl] at q1
    rw [Addr.add_zero' a0] at q0
    replace q0 : (w4.alloc (.cells #[.int .i64 0, .int .u32 0, .string S0, .int .i64 15] 35)).cell? a0 = some (.string ta) := q0
    replace q1 : (w4.alloc (.cells #[.int .i64 0, .int .u32 0, .string S0, .int .i64 15] 35)).cell? ⟨a0.block, a0.off + 1, none⟩ = some (.string tb) := q1
    clear hb4 T4 hN hA HS5
    generalize hgw : w4.alloc (.cells #[.int .i64 0, .int .u32 0, .string S0, .int .i64 15] 35) = w5 at *
    go_upto_region 7 with fail
    go_wp2_with fail
    refine (all_any none 0 0 (fun _ => ⟨0, 0, 0, 0, 0, none, 0, 0⟩) (fun _ => []) (fun _ => S0) (fun _ => 0) w5 (fun h => absurd h (by decide)) (by decide) (fun j h => absurd h (by omega)) (fun j h => absurd h (by omega))).mono ?_; rintro e w6 ⟨g6, rfl, _, hb6⟩
    have HB6 := Lib.hid (HB5.out.trans (hb6.mono HB5.out.size))
    clear hb6
    go_wp2_with fail
    go_ret
    exact ⟨rfl, HB6.out⟩
end Go.Proofs.YtooegclblgeicaaGreatDoor

/- Proved: what the document's Do tells of every job, and what few answers. Conditions: those that the theorems name. -/
namespace Go.Proofs.YtooegclblgeicaaGreatDoor
open Go.ChangeShapes Go.WideShapes Go.ChangeAt Go.RowKit

theorem res_rdo {T : Array Value} {W : World} {r : Nat} {s b z : Int} {t : ByteArray} (h2 : T.getD 2 undef = .pointer (some ⟨r, 0, none⟩)) (A : At W r 35 (rcells s b t z)) : (results Tryz.f7 T).run Tryz.prog W = .ok (rval s b t z) W := by
  have h2' : T[2]?.getD undef = .pointer (some ⟨r, 0, none⟩) := by simpa using h2
  have c0 := A.cell 0 rfl
  have c1 := A.cell 1 rfl
  have c2 := A.cell 2 rfl
  have c3 := A.cell 3 rfl
  simp [results, Tryz.results7, h2', c0, c1, c2, c3, go_sem]

set_option maxRecDepth 100000 in
set_option maxHeartbeats 1600000 in
theorem rdo_any (x : Jo) (l : List Shd) (t : ByteArray) (z : Int) (w : World) (hl : Sh w x.A x.m l) (hm : x.m ≤ 100) (h : DoIs x.k x.n x.l l t z) :
    Calls Tryz.prog 7 #[x.val] w fun e w' => e = .returned (rval x.s x.b t z) ∧ Below w.heap.size w w' := by
  obtain ⟨W, HW, A, A2, B, hs⟩ := dboxes x w
  have HD := Lib.hid (rdecode_any x.A x.m x.c x.k x.n l W (hl.below B) hm)
  have HA := Lib.hid A
  have HA2 := Lib.hid A2
  have HB := Lib.hid B
  have HS := Lib.hid hs
  have c2 := A.cell 2 rfl
  have c3 := A.cell 3 rfl
  have c5 := A.cell 5 rfl
  clear A A2 B hs hl hm
  obtain ⟨out, hd, h⟩ := h
  have HX := Lib.hid hd
  clear hd
  rcases h with ⟨h0, ez, rfl⟩ | ⟨h0, ez, et⟩
  · have hz : (z != 0) = true := by simp; omega
    have EZ := Lib.hid ez
    clear ez h0
    go_enter Tryz.func7, Tryz.ntmps7
    go_wp2_with fail
    rw [← HW]; clear HW
    refine HD.out.mono ?_; rintro e w1 ⟨A1, m1, c1, out1, rfl, hd1, hs1, hb1⟩
    have HA1 := Lib.hid (HA.out.below hb1 HA.out.lt)
    have HR1 := Lib.hid (HA2.out.below hb1 HA2.out.lt)
    have HB1 := Lib.hid (HB.out.trans (hb1.mono HB.out.size))
    rw [← EZ.out]
    clear hd1 hs1 hb1 c2 c3 c5
    have d0 := HA1.out.cell 0 rfl
    have d1 := HA1.out.cell 1 rfl
    have y0 := HR1.out.cell 0 rfl
    have y1 := HR1.out.cell 1 rfl
    have y2 := HR1.out.cell 2 rfl
    have y3 := HR1.out.cell 3 rfl
    have q0 := HR1.out.free 0
    have q1 := HR1.out.free 1
    have q2 := HR1.out.free 2
    have q3 := HR1.out.free 3
    go_wp2_with fail
    exact bodyPost_ret (v := rval x.s x.b S0 z) (res_rdo rfl (set4_at (a := .int .i64 x.s) (b := .int .u32 x.b) (c := .string S0) (d := .int .i64 z) HR1.out)) rfl ⟨rfl, HB1.out.grown (set4_grown w1 (w.heap.size + 1) _ _ _ _) HB1.out.size (fun k e => by injection e with e; omega)⟩
  · have HBd := Lib.hid (dc_bounds HX.out h0)
    have H0 := Lib.hid h0
    have EZ := Lib.hid ez
    have ET := Lib.hid et
    clear ez et h0
    go_enter Tryz.func7, Tryz.ntmps7
    go_wp2_with fail
    rw [← HW]; clear HW
    refine HD.out.mono ?_; rintro e w1 ⟨A1, m1, c1, out1, rfl, hd1, hs1, hb1⟩
    obtain rfl := hd1.only HX.out
    have HA1 := Lib.hid (HA.out.below hb1 HA.out.lt)
    have HR1 := Lib.hid (HA2.out.below hb1 HA2.out.lt)
    have HB1 := Lib.hid (HB.out.trans (hb1.mono HB.out.size))
    have hm1 := hs1.len
    have HJ := Lib.hid (rjoin_any A1 m1 c1 out1 x.l w1 hs1 (by have := HBd.out.1; omega) (fun j hj => HBd.out.2 j (by omega)))
    have d4 := HA1.out.cell 4 rfl
    rw [H0.out]
    clear hd1 hs1 hb1 c2 c3 c5 HX hm1
    go_wp2_with fail
    refine HJ.out.mono ?_; rintro e w3 ⟨rfl, hb3⟩
    have HA3 := Lib.hid (HA1.out.below hb3 HA1.out.lt)
    have HR3 := Lib.hid (HR1.out.below hb3 HR1.out.lt)
    have HB3 := Lib.hid (HB1.out.trans (hb3.mono HB1.out.size))
    rw [← EZ.out, ← ET.out]
    clear hb3 d4
    have d0 := HA3.out.cell 0 rfl
    have d1 := HA3.out.cell 1 rfl
    have y0 := HR3.out.cell 0 rfl
    have y1 := HR3.out.cell 1 rfl
    have y2 := HR3.out.cell 2 rfl
    have y3 := HR3.out.cell 3 rfl
    have q0 := HR3.out.free 0
    have q1 := HR3.out.free 1
    have q2 := HR3.out.free 2
    have q3 := HR3.out.free 3
    go_wp2_with fail
    exact bodyPost_ret (v := rval x.s x.b t z) (res_rdo rfl (set4_at (a := .int .i64 x.s) (b := .int .u32 x.b) (c := .string t) (d := .int .i64 z) HR3.out)) rfl ⟨rfl, HB3.out.grown (set4_grown w3 (w.heap.size + 1) _ _ _ _) HB3.out.size (fun k e => by injection e with e; omega)⟩
end Go.Proofs.YtooegclblgeicaaGreatDoor

/- Proved: what few answers of every job. Conditions: those that the theorem names. -/
namespace Go.Proofs.YtooegclblgeicaaGreatDoor
open Go.ChangeShapes Go.WideShapes Go.ChangeAt Go.RowKit

/-- A bool comes back; if it is true, there are at most 30 shards. -/
def FewIs (W : World) (m : Nat) (e : Ending) (w' : World) : Prop := ∃ b : Bool, e = .returned (.bool b) ∧ (b = true → m ≤ 30) ∧ Below W.heap.size W w'
set_option maxRecDepth 100000 in
set_option maxHeartbeats 1600000 in
theorem dfew_any (x : Jo) (l : List Shd) (w : World) (hl : Sh w x.A x.m l) :
    Calls Tryz.prog 5 #[x.val] w (FewIs w x.m) := by
  have HB := Lib.hid ((Below.refl w.heap.size w).alloc (Nat.le_refl _) (.cells #[.int .i64 x.s, .int .u32 x.b, .int .i64 x.k, .int .i64 x.n, .int .i64 x.l, .slice x.A x.m x.c] 30))
  have HL := Lib.hid (hl.below HB.out)
  have hA := At.new w 30 x.cells
  have c2 : (w.alloc (.cells #[.int .i64 x.s, .int .u32 x.b, .int .i64 x.k, .int .i64 x.n, .int .i64 x.l, .slice x.A x.m x.c] 30)).cell? ⟨w.heap.size, 2, none⟩ = some (.int .i64 x.k) := hA.cell 2 rfl
  have c5 : (w.alloc (.cells #[.int .i64 x.s, .int .u32 x.b, .int .i64 x.k, .int .i64 x.n, .int .i64 x.l, .slice x.A x.m x.c] 30)).cell? ⟨w.heap.size, 5, none⟩ = some (.slice x.A x.m x.c) := hA.cell 5 rfl
  clear hl hA
  generalize hgw : w.alloc (.cells #[.int .i64 x.s, .int .u32 x.b, .int .i64 x.k, .int .i64 x.n, .int .i64 x.l, .slice x.A x.m x.c] 30) = W at *
  obtain ⟨s, b, k, n, len, A, m, c⟩ := x
  change Hid (Sh W A m l) at HL
  have key : (m : Int) > 30 ∨ ¬ (m : Int) > 30 ∧ k > 12 ∧ k ≤ 32 ∨ ¬ (m : Int) > 30 ∧ ¬ k > 12 ∨ ¬ (m : Int) > 30 ∧ k > 12 ∧ ¬ k ≤ 32 := by omega
  rcases key with h1 | ⟨h1, h2, h3⟩ | ⟨h1, h2⟩ | ⟨h1, h2, h3⟩
  · go_enter Tryz.func5, Tryz.ntmps5
    go_wp2_with fail
    go_ret
    exact ⟨false, rfl, fun e => Bool.noConfusion e, HB.out⟩
  · go_enter Tryz.func5, Tryz.ntmps5
    go_wp2_with fail
    go_ret
    exact ⟨false, rfl, fun e => Bool.noConfusion e, HB.out⟩
  all_goals
    go_enter Tryz.func5, Tryz.ntmps5
    go_wp2_with fail
    go_loop [3] (fun v => ∃ q : Nat, q ≤ m ∧ v = .int .i64 q) (fun v => m - (intOf v).toNat)
    case atStart => exact ⟨0, by omega, rfl⟩
    case round =>
      obtain ⟨q, hq, rfl⟩ := hrel
      by_cases hlt : q < m
      · obtain ⟨ad, rfl, _, _, hc⟩ := HL.out.at_ hlt
        have hlt' : (q : Int) < (m : Int) := by omega
        have hq0 : (0 : Int) ≤ (q : Int) := Int.natCast_nonneg _
        generalize (sh_ l q).2 = t at *
        by_cases ht : (t.size : Int) > 40
        · go_wp2_with fail
          go_ret
          exact ⟨false, rfl, fun e => Bool.noConfusion e, HB.out⟩
        · go_wp2_with fail
          go_round
          case rel => exact ⟨q + 1, by omega, by go_num⟩
          case measure => simp [intOf]; omega
      · obtain rfl : q = m := by omega
        go_wp2_with fail
        go_ret
        exact ⟨true, rfl, fun _ => by show q ≤ 30; omega, HB.out⟩
end Go.Proofs.YtooegclblgeicaaGreatDoor

/- Proved: lemmas of one statement's proof, merged by program: what each part proves stands ahead of it. Conditions: those that the lemmas name. -/
import Derived.Test.YtedecminaopgaaaM9
import Derived.Lib.AppendZeros

/- Proved: what the document's Put of orders answers. Conditions: those that the theorems name. -/
namespace Go.Proofs.Ytedecminaopgaaa
open Go.ChangeShapes Go.WideShapes Go.ChangeAt Go.RowKit

theorem res_rput {T : Array Value} {W : World} {b k c : Nat} {B n z : Int} {A : Option Addr} (h2 : T.getD 6 undef = .pointer (some ⟨b, 0, none⟩)) (h3 : T.getD 7 undef = .int .i64 z) (h : At W b 35 (roC B n A k c)) : (results Try.f57 T).run Try.prog W = .ok (.tuple #[roV B n A k c, .int .i64 z]) W := by
  have h2' : T[6]?.getD undef = .pointer (some ⟨b, 0, none⟩) := by simpa using h2
  have h3' : T[7]?.getD undef = .int .i64 z := by simpa using h3
  have c0 := h.cell 0 rfl
  have c1 := h.cell 1 rfl
  have c2 := h.cell 2 rfl
  simp [results, Try.results57, h2', h3', c0, c1, c2, go_sem]
/-- A box with an order, and an empty result behind it. -/
theorem oboxes (B n : Int) (A : Option Addr) (k c : Nat) (w : World) : ∃ W, W = (w.alloc (.cells #[.int .u32 B, .int .i64 n, .slice A k c] 35)).alloc (.cells #[.int .u32 0, .int .i64 0, .slice none 0 0] 35) ∧ At W w.heap.size 35 (roC B n A k c) ∧ At W (w.heap.size + 1) 35 [.int .u32 0, .int .i64 0, .slice none 0 0] ∧ Below w.heap.size w W ∧ W.heap.size = w.heap.size + 2 := by
  refine ⟨_, rfl, ?_, ?_, ?_, by simp⟩
  · exact (At.new w 35 (roC B n A k c)).alloc _
  · have h := At.new (w.alloc (.cells #[.int .u32 B, .int .i64 n, .slice A k c] 35)) 35 [.int .u32 0, .int .i64 0, .slice none 0 0]
    simpa using h
  · exact ((Below.refl _ _).alloc (Nat.le_refl _) _).alloc (by simp) _
def oset3 (W : World) (b : Nat) (x y z : Value) : World := ((W.setCell ⟨b, 0, none⟩ x).setCell ⟨b, 1, none⟩ y).setCell ⟨b, 2, none⟩ z
theorem oset3_at {W : World} {b : Nat} {t : TypeId} {a c d x y z : Value} (A : At W b t [a, c, d]) : At (oset3 W b x y z) b t [x, y, z] := ((A.set_ 0 _).set_ 1 _).set_ 2 _
theorem oset3_below {W w : World} {B b : Nat} {x y z : Value} (h : Below B w W) (hw : B ≤ w.heap.size) (hb : B ≤ b) : Below B w (oset3 W b x y z) := pset_below (pset_below (pset_below h hw hb) hw hb) hw hb
theorem ro_ne : (35 : TypeId) ≠ 82 := by decide
theorem bw_oset3 {w : World} {A : Option Addr} {M : List Xb} (h : Bw w A M) {b : Nat} {a c d x y z : Value} (k : At w b 35 [a, c, d]) : Bw (oset3 w b x y z) A M :=
  ((Tw.set_ h k ro_ne 0 _).set_ (k.set_ 0 _) ro_ne 1 _).set_ ((k.set_ 0 _).set_ 1 _) ro_ne 2 _
/-- An order of the document's and a number come back; nothing that was there has turned. -/
def GivesPt (W : World) (B n : Int) (L : List ByteArray) (z : Int) (e : Ending) (w' : World) : Prop :=
  ∃ A c M, e = .returned (.tuple #[roV B n A M.length c, .int .i64 z]) ∧ M.length ≤ c ∧ (A = none → c = 0) ∧ Bw w' A M ∧ Rel B L M ∧ Below W.heap.size W w'
/-- the two appends. -/
theorem add_runs {W : World} {A : Option Addr} {M : List Xb} {c : Nat} (h : Bw W A M) (hA : A = none → c = 0) (hm : M.length ≤ 64) (x : Int) (s : ByteArray) :
    ∃ v2 W2 A3 c3 W3, (Builtin.append_ #[33, 33] 33 #[.slice none 0 0, .slice A M.length c]).run Try.prog W = .ok v2 W2 ∧
      (Builtin.append_ #[33, 33] 33 #[v2, .slice (some ⟨W2.heap.size, 0, none⟩) 1 1]).run Try.prog (W2.alloc (.cells #[.int .u32 x, .string s] 82)) = .ok (.slice A3 (M.length + 1) c3) W3 ∧
      M.length + 1 ≤ c3 ∧ (A3 = none → c3 = 0) ∧ Bw W3 A3 (M ++ [(x, s)]) ∧ Below W.heap.size W W2 ∧ Below W.heap.size W W3 := by
  obtain ⟨v2, W2, hr1, ho1, hg1⟩ := run_copy (ty := 33) Try.underlying33 infoXb rfl (by decide) (World.ownsRow_nil W W.heap.size 82 2) (A := A) (m := M.length) (cp := c) (ys := bcl M) (bcl_len M) h.cl hA (bcl_one M) (by omega) (by decide) (Nat.le_refl _)
  rw [Nat.zero_add, List.nil_append] at ho1
  have b2 : Below W.heap.size W W2 := below_grown hg1 (Nat.le_refl _) (by simp [Value.ownBlock])
  have b2' : Below W.heap.size W (W2.alloc (.cells #[.int .u32 x, .string s] 82)) := b2.alloc b2.size _
  obtain ⟨v3, W3, hr2, ho2, hg2⟩ := run_copy (ty := 33) Try.underlying33 infoXb rfl (by decide) (ho1.alloc (.cells #[.int .u32 x, .string s] 82)) (c := fun _ => True) (A := some ⟨W2.heap.size, 0, none⟩) (m := 1) (cp := 1) (ys := bcl [(x, s)]) rfl (cl_at (n := 2) (At.new W2 82 [.int .u32 x, .string s]) trivial rfl) (fun e => nomatch e) (bcl_one _) (by omega) (by decide) b2'.size
  rw [← bcl_app] at ho2
  obtain ⟨A3, c3, rfl, hc3, hA3, ht3⟩ := Tw.own ho2
  exact ⟨v2, W2, A3, c3, W3, hr1, hr2, hc3, hA3, ht3, b2, b2'.trans (below_grown hg2 b2'.size fun g e => (ho1.lt g e).1)⟩
set_option maxRecDepth 100000 in
set_option maxHeartbeats 1600000 in
theorem rput_any (B n : Int) (A : Option Addr) (c : Nat) (L : List ByteArray) (M : List Xb) (x : Int) (s : ByteArray) (w : World) (h : Bw w A M) (hc : M.length ≤ c) (hA : A = none → c = 0) (hR : Rel B L M) (hB : U32 B) (hx : U32 x) (hl : L.length ≤ 64) :
    Calls Try.prog 57 #[roV B n A M.length c, .int .u32 x, .string s] w (GivesPt w B n (putO B n L x s) (putE B n L x s)) := by
  obtain ⟨W, HW, A1, A2, B1, hs⟩ := oboxes B n A M.length c w
  have HLs := Lib.hid (fun w => rless_any x B hx hB w)
  have HI := Lib.hid (fun w => rwithin_any x B n hx hB w)
  have HN := Lib.hid (rhas23_any B n A c L M x W (h.below B1) hR hB hx hl)
  have HU := Lib.hid (h.below B1)
  have HC := Lib.hid (And.intro hc (And.intro hA hR))
  have HP := Lib.hid (fun (e : putE B n L x s = 3) => hR.put hB hx hl e)
  have HM64 := Lib.hid (hR.few hl)
  have HA1 := Lib.hid A1
  have HA2 := Lib.hid A2
  have HB := Lib.hid B1
  have HS := Lib.hid hs
  have c0 := A1.cell 0 rfl
  have c1 := A1.cell 1 rfl
  have c2 := A1.cell 2 rfl
  have x0 := A2.cell 0 rfl
  have x1 := A2.cell 1 rfl
  have x2 := A2.cell 2 rfl
  have y0 := A2.free 0
  have y1 := A2.free 1
  have y2 := A2.free 2
  have e0 := em_same s
  clear A1 A2 B1 h hc hA hs hx hB hR
  by_cases h1 : 0 < ah x B
  · obtain ⟨e1, e2⟩ := pt_less (n := n) (L := L) (s := s) h1
    rw [decide_eq_true h1] at HLs
    rw [e1, e2]
    clear e1 e2 h1
    go_enter Try.func57, Try.ntmps57
    go_wp2_with fail
    rw [← HW]; clear HW
    refine (HLs.out _).mono ?_; rintro e w1 ⟨rfl, rfl⟩
    go_wp2_with fail
    exact bodyPost_ret (v := .tuple #[roV B n A M.length c, .int .i64 0]) (res_rput rfl rfl (oset3_at HA2.out)) rfl ⟨A, c, M, rfl, HC.out.1, HC.out.2.1, bw_oset3 HU.out HA2.out, HC.out.2.2, oset3_below HB.out (Nat.le_refl _) (by omega)⟩
  rw [decide_eq_false h1] at HLs
  cases h2 : inZ x B n
  · obtain ⟨e1, e2⟩ := pt_past (L := L) (s := s) h1 h2
    rw [h2] at HI
    rw [e1, e2]
    clear e1 e2 h1 h2
    go_enter Try.func57, Try.ntmps57
    go_wp2_with fail
    rw [← HW]; clear HW
    refine (HLs.out _).mono ?_; rintro e w1 ⟨rfl, rfl⟩
    go_wp2_with fail
    refine (HI.out _).mono ?_; rintro e w1 ⟨rfl, rfl⟩
    go_wp2_with fail
    exact bodyPost_ret (v := .tuple #[roV B n A M.length c, .int .i64 1]) (res_rput rfl rfl (oset3_at HA2.out)) rfl ⟨A, c, M, rfl, HC.out.1, HC.out.2.1, bw_oset3 HU.out HA2.out, HC.out.2.2, oset3_below HB.out (Nat.le_refl _) (by omega)⟩
  rw [h2] at HI
  have HK : Hid (∀ V, Below W.heap.size W V → At V w.heap.size 35 (roC B n A M.length c) ∧ At V (w.heap.size + 1) 35 [.int .u32 0, .int .i64 0, .slice none 0 0] ∧ Bw V A M ∧ Below w.heap.size w V) := Lib.hid fun V g =>
    ⟨HA1.out.below g HA1.out.lt, HA2.out.below g HA2.out.lt, HU.out.below g, HB.out.trans (g.mono HB.out.size)⟩
  cases h3 : hasO B L x
  · cases h4 : emB s
    · obtain ⟨e1, e2⟩ := pt_new h1 h2 h3 h4
      have HP2 := Lib.hid (HP.out e1)
      rw [h3] at HN
      rw [e1]
      have e5 : s.toList.isEmpty = false := h4
      rw [h4] at e0
      clear e1 e2 h1 h2 h3 h4 HP
      go_enter Try.func57, Try.ntmps57
      go_wp2_with fail
      rw [← HW]; clear HW
      refine (HLs.out _).mono ?_; rintro e w1 ⟨rfl, rfl⟩
      go_wp2_with fail
      refine (HI.out _).mono ?_; rintro e w1 ⟨rfl, rfl⟩
      go_wp2_with fail
      refine HN.out.mono ?_; rintro e w2 ⟨rfl, k2⟩
      obtain ⟨P1, P2, P3, P4⟩ := HK.out _ k2
      obtain ⟨v3, W3, A4, c4, W4, hr1, hr2, hc4, hA4, hw4, b3, b4⟩ := add_runs P3 HC.out.2.1 HM64.out x s
      have Q1 := P1.below b4 P1.lt
      have Q2 := P2.below b4 P2.lt
      have g2 := P1.cell 2 rfl
      clear c0 c1 c2 x0 x1 x2 y0 y1 y2
      go_upto_region 11 with (at_builtin; refine Lib.wpList_append_run _ rfl _ _ _ _ rfl _ _ rfl rfl _ _ hr1 ?_)
      have q2 := Q1.cell 2 rfl
      have q3 := Q1.free 2
      have S1 := Q1.set_ 2 (.slice A4 (M.length + 1) c4)
      have S2 := Q2.far (p := ⟨w.heap.size, 2, none⟩) (by show w.heap.size + 1 ≠ w.heap.size; omega) (.slice A4 (M.length + 1) c4)
      have HS1 := Lib.hid S1
      have HS2 := Lib.hid S2
      have HW4 := Lib.hid (Tw.set_ hw4 Q1 ro_ne 2 (.slice A4 (M.length + 1) c4))
      have HB4 := Lib.hid (pset_below (j := 2) (v := .slice A4 (M.length + 1) c4) (P4.trans (b4.mono P4.size)) (Nat.le_refl _) (Nat.le_refl w.heap.size))
      have HC4 := Lib.hid (And.intro hc4 hA4)
      clear Q1 Q2 P1 P2 P3 P4 hw4 b3 b4 hc4 hA4 k2 S1 S2 hr1
      go_upto_region 12 with (at_builtin; refine Lib.wpList_append_run _ rfl _ _ _ _ rfl _ _ rfl rfl _ _ hr2 ?_)
      change Code.wp _ _ _ _ (W4.setCell ⟨w.heap.size, 2, none⟩ (.slice A4 (M.length + 1) c4))
      generalize W4.setCell ⟨w.heap.size, 2, none⟩ (.slice A4 (M.length + 1) c4) = W5 at *
      clear q2 q3 hr2 g2
      have c0 := HS1.out.cell 0 rfl
      have c1 := HS1.out.cell 1 rfl
      have c2 := HS1.out.cell 2 rfl
      have x0 := HS2.out.cell 0 rfl
      have x1 := HS2.out.cell 1 rfl
      have x2 := HS2.out.cell 2 rfl
      have y0 := HS2.out.free 0
      have y1 := HS2.out.free 1
      have y2 := HS2.out.free 2
      go_wp2_with fail
      refine bodyPost_ret (v := .tuple #[roV B n A4 (M.length + 1) c4, .int .i64 3]) (res_rput rfl rfl (oset3_at HS2.out)) rfl ⟨A4, c4, M ++ [(x, s)], ?_, ?_, HC4.out.2, bw_oset3 HW4.out HS2.out, HP2.out, oset3_below HB4.out (Nat.le_refl _) (by omega)⟩
      · rw [List.length_append]; rfl
      · rw [List.length_append]; exact HC4.out.1
    · obtain ⟨e1, e2⟩ := pt_none h1 h2 h3 h4
      rw [h3] at HN
      rw [e1, e2]
      obtain rfl := em_is.1 h4
      clear e1 e2 h1 h2 h3 h4 e0 HP
      go_enter Try.func57, Try.ntmps57
      go_wp2_with fail
      rw [← HW]; clear HW
      refine (HLs.out _).mono ?_; rintro e w1 ⟨rfl, rfl⟩
      go_wp2_with fail
      refine (HI.out _).mono ?_; rintro e w1 ⟨rfl, rfl⟩
      go_wp2_with fail
      refine HN.out.mono ?_; rintro e w2 ⟨rfl, k2⟩
      obtain ⟨P1, P2, P3, P4⟩ := HK.out _ k2
      have H1 := Lib.hid P1
      have H2 := Lib.hid P2
      have H3 := Lib.hid P3
      have H4 := Lib.hid P4
      clear P1 P2 P3 P4 k2 c0 c1 c2 x0 x1 x2 y0 y1 y2
      have c0 := H1.out.cell 0 rfl
      have c1 := H1.out.cell 1 rfl
      have c2 := H1.out.cell 2 rfl
      have x0 := H2.out.cell 0 rfl
      have x1 := H2.out.cell 1 rfl
      have x2 := H2.out.cell 2 rfl
      have y0 := H2.out.free 0
      have y1 := H2.out.free 1
      have y2 := H2.out.free 2
      go_wp2_with fail
      exact bodyPost_ret (v := .tuple #[roV B n A M.length c, .int .i64 4]) (res_rput rfl rfl (oset3_at H2.out)) rfl ⟨A, c, M, rfl, HC.out.1, HC.out.2.1, bw_oset3 H3.out H2.out, HC.out.2.2, oset3_below H4.out (Nat.le_refl _) (by omega)⟩
  · obtain ⟨e1, e2⟩ := pt_old (s := s) h1 h2 h3
    rw [h3] at HN
    rw [e1, e2]
    clear e1 e2 h1 h2 h3 HP
    go_enter Try.func57, Try.ntmps57
    go_wp2_with fail
    rw [← HW]; clear HW
    refine (HLs.out _).mono ?_; rintro e w1 ⟨rfl, rfl⟩
    go_wp2_with fail
    refine (HI.out _).mono ?_; rintro e w1 ⟨rfl, rfl⟩
    go_wp2_with fail
    refine HN.out.mono ?_; rintro e w2 ⟨rfl, k2⟩
    obtain ⟨P1, P2, P3, P4⟩ := HK.out _ k2
    have H1 := Lib.hid P1
    have H2 := Lib.hid P2
    have H3 := Lib.hid P3
    have H4 := Lib.hid P4
    clear P1 P2 P3 P4 k2 c0 c1 c2 x0 x1 x2 y0 y1 y2
    have c0 := H1.out.cell 0 rfl
    have c1 := H1.out.cell 1 rfl
    have c2 := H1.out.cell 2 rfl
    have x0 := H2.out.cell 0 rfl
    have x1 := H2.out.cell 1 rfl
    have x2 := H2.out.cell 2 rfl
    have y0 := H2.out.free 0
    have y1 := H2.out.free 1
    have y2 := H2.out.free 2
    go_wp2_with fail
    exact bodyPost_ret (v := .tuple #[roV B n A M.length c, .int .i64 2]) (res_rput rfl rfl (oset3_at H2.out)) rfl ⟨A, c, M, rfl, HC.out.1, HC.out.2.1, bw_oset3 H3.out H2.out, HC.out.2.2, oset3_below H4.out (Nat.le_refl _) (by omega)⟩
end Go.Proofs.Ytedecminaopgaaa

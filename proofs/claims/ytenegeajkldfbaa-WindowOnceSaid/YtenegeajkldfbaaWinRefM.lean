/- Proved: what the document's Mark of windows answers. Conditions: those that the theorems name. -/
import Derived.Test.YtenegeajkldfbaaWinRef
namespace Go.Proofs.Ytenegeajkldfbaa
open Go.ChangeShapes Go.WideShapes Go.ChangeAt Go.RowKit

/-- the document's window, as a value. -/
abbrev rwV (B : Int) (n : Nat) (A : Option Addr) (k c : Nat) : Value := .agg #[.int .u32 B, .int .i64 (n : Nat), .slice A k c]
abbrev rwC (B : Int) (n : Nat) (A : Option Addr) (k c : Nat) : List Value := [.int .u32 B, .int .i64 (n : Nat), .slice A k c]
/-- A window of the document's and a number come back; nothing that was there has turned. -/
def GivesW (W : World) (B : Int) (n : Nat) (l : List Int) (z : Int) (e : Ending) (w' : World) : Prop :=
  ∃ A c, e = .returned (.tuple #[rwV B n A l.length c, .int .i64 z]) ∧ l.length ≤ c ∧ (A = none → c = 0) ∧ Uw w' A l.length l ∧ Below W.heap.size W w'
theorem res_rmark {T : Array Value} {W : World} {b n k c : Nat} {B z : Int} {A : Option Addr} (h2 : T.getD 4 undef = .pointer (some ⟨b, 0, none⟩)) (h3 : T.getD 5 undef = .int .i64 z) (h : At W b 31 (rwC B n A k c)) : (results Try.f8 T).run Try.prog W = .ok (.tuple #[rwV B n A k c, .int .i64 z]) W := by
  have h2' : T[4]?.getD undef = .pointer (some ⟨b, 0, none⟩) := by simpa using h2
  have h3' : T[5]?.getD undef = .int .i64 z := by simpa using h3
  have c0 := h.cell 0 rfl
  have c1 := h.cell 1 rfl
  have c2 := h.cell 2 rfl
  simp [results, Try.results8, h2', h3', c0, c1, c2, go_sem]
/-- A box with a window, and an empty result behind it. -/
theorem wboxes (B : Int) (n : Nat) (A : Option Addr) (k c : Nat) (w : World) : ∃ W, W = (w.alloc (.cells #[.int .u32 B, .int .i64 (n : Nat), .slice A k c] 31)).alloc (.cells #[.int .u32 0, .int .i64 0, .slice none 0 0] 31) ∧ At W w.heap.size 31 (rwC B n A k c) ∧ At W (w.heap.size + 1) 31 [.int .u32 0, .int .i64 0, .slice none 0 0] ∧ Below w.heap.size w W ∧ W.heap.size = w.heap.size + 2 := by
  refine ⟨_, rfl, ?_, ?_, ?_, by simp⟩
  · exact (At.new w 31 (rwC B n A k c)).alloc _
  · have h := At.new (w.alloc (.cells #[.int .u32 B, .int .i64 (n : Nat), .slice A k c] 31)) 31 [.int .u32 0, .int .i64 0, .slice none 0 0]
    simpa using h
  · exact ((Below.refl _ _).alloc (Nat.le_refl _) _).alloc (by simp) _
theorem below_set {W w : World} {B b j : Nat} {v : Value} (h : Below B w W) (hw : B ≤ w.heap.size) (hb : B ≤ b) : Below B w (W.setCell ⟨b, j, none⟩ v) := h.grown (grown_set W ⟨b, j, none⟩ v) (Nat.le_trans hw h.size) (fun k e => by injection e with e; show B ≤ k; rw [← e]; exact hb)
def wset3 (W : World) (b : Nat) (x y z : Value) : World := ((W.setCell ⟨b, 0, none⟩ x).setCell ⟨b, 1, none⟩ y).setCell ⟨b, 2, none⟩ z
theorem wset3_at {W : World} {b : Nat} {t : TypeId} {a c d x y z : Value} (A : At W b t [a, c, d]) : At (wset3 W b x y z) b t [x, y, z] := ((A.set_ 0 _).set_ 1 _).set_ 2 _
theorem wset3_below {W w : World} {b : Nat} {x y z : Value} (h : Below w.heap.size w W) (hb : w.heap.size ≤ b) : Below w.heap.size w (wset3 W b x y z) := below_set (below_set (below_set h (Nat.le_refl _) hb) (Nat.le_refl _) hb) (Nat.le_refl _) hb
theorem uw_set {w : World} {A : Option Addr} {n : Nat} {l : List Int} (h : Uw w A n l) {b : Nat} {t : TypeId} {vs : List Value} (k : At w b t vs) (ht : 22 ≠ t) (j : Nat) (v : Value) : Uw (w.setCell ⟨b, j, none⟩ v) A n l :=
  h.kept (grown_set w ⟨b, j, none⟩ v) (fun q xs f e => by injection e with e; subst e; exact k.no_u32 ht)
theorem u32_ne_w : (22 : TypeId) ≠ 31 := by decide
theorem uw_wset3 {w : World} {A : Option Addr} {n : Nat} {l : List Int} (h : Uw w A n l) {b : Nat} {a c d x y z : Value} (k : At w b 31 [a, c, d]) : Uw (wset3 w b x y z) A n l :=
  uw_set (uw_set (uw_set h k u32_ne_w 0 _) (k.set_ 0 _) u32_ne_w 1 _) ((k.set_ 0 _).set_ 1 _) u32_ne_w 2 _
set_option maxRecDepth 100000 in
set_option maxHeartbeats 1600000 in
theorem rmark_any (B : Int) (n : Nat) (A : Option Addr) (k c : Nat) (l : List Int) (x : Int) (w : World) (hl : Uw w A k l) (hc : k ≤ c) (hA : A = none → c = 0) (hn : k ≤ 500) (hx : U32 x) (hB : U32 B) :
    Calls Try.prog 8 #[rwV B n A k c, .int .u32 x] w (GivesW w B n (mkL B n l x) (mkE B n l x)) := by
  obtain ⟨W, HW, A1, A2, B1, hs⟩ := wboxes B n A k c w
  have HLs := Lib.hid (fun w => rless_any x B hx hB w)
  have HI := Lib.hid (fun w => rwithin_any x B n hx hB w)
  have HN := Lib.hid (fun W g => rin_any A k c l x W g (by omega))
  have HU := Lib.hid (hl.below B1)
  have HC := Lib.hid (And.intro hc hA)
  have HA1 := Lib.hid A1
  have HA2 := Lib.hid A2
  have HB := Lib.hid B1
  have HS := Lib.hid hs
  have c0 := A1.cell 0 rfl
  have c1 := A1.cell 1 rfl
  have c2 := A1.cell 2 rfl
  have x0 := A2.cell 0 rfl
  have x1 := A2.cell 1 rfl
  have x2 := A2.cell 2 rfl
  have y0 := A2.free 0
  have y1 := A2.free 1
  have y2 := A2.free 2
  have z2 := A1.free 2
  clear A1 A2 B1 hl hc hA hs hx hB
  by_cases h1 : 0 < ah x B
  · obtain ⟨e1, e2⟩ := mk_less (n := n) (L := l) h1
    rw [decide_eq_true h1] at HLs
    rw [e1, e2]
    clear e1 e2 h1
    go_enter Try.func8, Try.ntmps8
    go_wp2_with fail
    rw [← HW]; clear HW
    refine (HLs.out _).mono ?_; rintro e w1 ⟨rfl, rfl⟩
    go_wp2_with fail
    obtain rfl := HU.out.len
    exact bodyPost_ret (v := .tuple #[rwV B n A l.length c, .int .i64 0]) (res_rmark rfl rfl (wset3_at HA2.out)) rfl ⟨A, c, rfl, HC.out.1, HC.out.2, uw_wset3 HU.out HA2.out, wset3_below HB.out (by omega)⟩
  · rw [decide_eq_false h1] at HLs
    cases h2 : inZ x B n
    · obtain ⟨e1, e2⟩ := mk_past (n := n) (L := l) h1 h2
      rw [h2] at HI
      rw [e1, e2]
      clear e1 e2 h1 h2
      go_enter Try.func8, Try.ntmps8
      go_wp2_with fail
      rw [← HW]; clear HW
      refine (HLs.out _).mono ?_; rintro e w1 ⟨rfl, rfl⟩
      go_wp2_with fail
      refine (HI.out _).mono ?_; rintro e w1 ⟨rfl, rfl⟩
      go_wp2_with fail
      obtain rfl := HU.out.len
      exact bodyPost_ret (v := .tuple #[rwV B n A l.length c, .int .i64 1]) (res_rmark rfl rfl (wset3_at HA2.out)) rfl ⟨A, c, rfl, HC.out.1, HC.out.2, uw_wset3 HU.out HA2.out, wset3_below HB.out (by omega)⟩
    · rw [h2] at HI
      by_cases h3 : x ∈ l
      · obtain ⟨e1, e2⟩ := mk_old (n := n) (L := l) h1 h2 h3
        rw [decide_eq_true h3] at HN
        rw [e1, e2]
        clear e1 e2 h1 h2 h3
        go_enter Try.func8, Try.ntmps8
        go_wp2_with fail
        rw [← HW]; clear HW
        refine (HLs.out _).mono ?_; rintro e w1 ⟨rfl, rfl⟩
        go_wp2_with fail
        refine (HI.out _).mono ?_; rintro e w1 ⟨rfl, rfl⟩
        go_wp2_with fail
        refine (HN.out _ HU.out).mono ?_; rintro e w1 ⟨rfl, rfl⟩
        go_wp2_with fail
        obtain rfl := HU.out.len
        exact bodyPost_ret (v := .tuple #[rwV B n A l.length c, .int .i64 2]) (res_rmark rfl rfl (wset3_at HA2.out)) rfl ⟨A, c, rfl, HC.out.1, HC.out.2, uw_wset3 HU.out HA2.out, wset3_below HB.out (by omega)⟩
      · obtain ⟨e1, e2⟩ := mk_new (n := n) (L := l) h1 h2 h3
        rw [decide_eq_false h3] at HN
        rw [e1, e2]
        have hbs : w.heap.size + 2 ≤ W.heap.size := by have := HS.out; omega
        clear e1 e2 h1 h2 h3
        go_enter Try.func8, Try.ntmps8
        go_wp2_with fail
        rw [← HW]; clear HW
        refine (HLs.out _).mono ?_; rintro e w1 ⟨rfl, rfl⟩
        go_wp2_with fail
        refine (HI.out _).mono ?_; rintro e w1 ⟨rfl, rfl⟩
        go_wp2_with fail
        refine (HN.out _ HU.out).mono ?_; rintro e w1 ⟨rfl, rfl⟩
        go_wp2_with (first
          | (at_builtin; refine uw_append rfl _ _ rfl (w.heap.size + 2) (.slice none 0 0) 0 [] rfl (World.ownsRow_nil _ _ _ _) A k c l rfl HU.out HC.out.2 (by omega) hbs ?_; intro v5 w5 hown5 hg5; have hg5' : W.grownBy w5 none := hg5; have HO5 := Lib.hid (hown5.alloc (.cells #[.int .u32 x] 22)); have hg6 := grown_trans2 hg5' (World.grownBy_alloc w5 (.cells #[.int .u32 x] 22) none); have HA5 := Lib.hid (HA1.out.kept hg6 (by simp)); have HA6 := Lib.hid (HA2.out.kept hg6 (by simp)); have HB5 := Lib.hid (HB.out.grown hg6 HB.out.size (by simp)); have HC5 := Lib.hid (uw_one w5 x); have hbs5 := Nat.le_trans hbs hg6.size; clear hown5 hg5 hg5' hg6 c0 c1 c2 x0 x1 x2 y0 y1 y2 z2)
          | (at_builtin; refine uw_append rfl _ _ rfl (w.heap.size + 2) v5 (0 + k) ([] ++ l) rfl HO5.out _ 1 1 [x] rfl HC5.out (fun e => nomatch e) (by omega) hbs5 ?_; intro v6 w6 hown6 hg6; have HR6 : Hid (∀ q, v5.ownBlock = some q → w.heap.size + 2 ≤ q) := Lib.hid (fun q e => (HO5.out.lt q e).1); obtain ⟨A6, c6, e6, hc6, hA6, hu6⟩ := uw_of hown6; subst e6; have HU6 := Lib.hid hu6; have HC6 := Lib.hid (And.intro hc6 hA6); have HA7 := Lib.hid (HA5.out.kept hg6 (fun e => by have := HR6.out _ e; omega)); have HA8 := Lib.hid (HA6.out.kept hg6 (fun e => by have := HR6.out _ e; omega)); have HB7 := Lib.hid (HB5.out.grown hg6 HB5.out.size (fun q e => by have := HR6.out q e; omega)); have c0 := HA7.out.cell 0 rfl; have c1 := HA7.out.cell 1 rfl; have c2 := HA7.out.cell 2 rfl; have z2 := HA7.out.free 2; have x0 := HA8.out.cell 0 rfl; have x1 := HA8.out.cell 1 rfl; have x2 := HA8.out.cell 2 rfl; have y0 := HA8.out.free 0; have y1 := HA8.out.free 1; have y2 := HA8.out.free 2; clear hown6 hg6 hc6 hA6 hu6 HO5 HA5 HA6 HB5 HC5))
        have e := HU6.out.len
        have hu := HU6.out
        rw [List.nil_append, Nat.zero_add] at e hu
        have HF := HA8.out.far (p := ⟨w.heap.size, 2, none⟩) (by show w.heap.size + 1 ≠ w.heap.size; omega) (.slice A6 (k + 1) c6)
        refine bodyPost_ret (v := .tuple #[rwV B n A6 (k + 1) c6, .int .i64 3]) (res_rmark rfl rfl (wset3_at HF)) rfl ⟨A6, c6, by rw [e], by rw [e]; have := HC6.out.1; omega, HC6.out.2, ?_, ?_⟩
        · rw [e]
          exact uw_wset3 (uw_set hu HA7.out u32_ne_w 2 _) HF
        · exact wset3_below (below_set HB7.out (Nat.le_refl _) (Nat.le_refl _)) (by omega)
end Go.Proofs.Ytenegeajkldfbaa

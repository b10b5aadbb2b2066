/- Proved: lemmas of one statement's proof, merged by program: what each part proves stands ahead of it. Conditions: those that the lemmas name. -/
import Derived.Test.YtedecminaopgaaaM10

/- Proved: what the document's Next of orders answers. Conditions: those that the theorems name. -/
namespace Go.Proofs.Ytedecminaopgaaa
open Go.ChangeShapes Go.WideShapes Go.ChangeAt Go.RowKit

theorem res_rnext {T : Array Value} {W : World} {b k c : Nat} {B n : Int} {A : Option Addr} {s : ByteArray} {is : Bool} (h2 : T.getD 4 undef = .pointer (some ⟨b, 0, none⟩)) (h3 : T.getD 5 undef = .string s) (h4 : T.getD 6 undef = .bool is) (h : At W b 35 (roC B n A k c)) : (results Try.f58 T).run Try.prog W = .ok (.tuple #[roV B n A k c, .string s, .bool is]) W := by
  have h2' : T[4]?.getD undef = .pointer (some ⟨b, 0, none⟩) := by simpa using h2
  have h3' : T[5]?.getD undef = .string s := by simpa using h3
  have h4' : T[6]?.getD undef = .bool is := by simpa using h4
  have c0 := h.cell 0 rfl
  have c1 := h.cell 1 rfl
  have c2 := h.cell 2 rfl
  simp [results, Try.results58, h2', h3', h4', c0, c1, c2, go_sem]
/-- the two appends. -/
theorem cut_runs {W : World} {A : Option Addr} {M : List Xb} {c i : Nat} (h : Bw W A M) (hc : M.length ≤ c) (hm : M.length ≤ 64) (hi : i < M.length) :
    ∃ v2 W2 A3 c3 W3 A4, (∀ V : World, (Instr.slice 33 (.slice A M.length c) none (some (.int .i64 (i : Nat))) none).run Try.prog V = .ok (.slice A i c) V) ∧
      (Builtin.append_ #[33, 33] 33 #[.slice none 0 0, .slice A i c]).run Try.prog W = .ok v2 W2 ∧
      (∀ V : World, (Instr.slice 33 (.slice A M.length c) (some (.int .i64 ((i : Int) + 1))) none none).run Try.prog V = .ok (.slice A4 (M.length - (i + 1)) (c - (i + 1))) V) ∧
      (Builtin.append_ #[33, 33] 33 #[v2, .slice A4 (M.length - (i + 1)) (c - (i + 1))]).run Try.prog W2 = .ok (.slice A3 (M.take i ++ M.drop (i + 1)).length c3) W3 ∧
      (M.take i ++ M.drop (i + 1)).length ≤ c3 ∧ (A3 = none → c3 = 0) ∧ Bw W3 A3 (M.take i ++ M.drop (i + 1)) ∧ Below W.heap.size W W2 ∧ Below W.heap.size W W3 := by
  have hcl := h.cl
  obtain ⟨g, o, cur, f, rfl, _, _⟩ := h (by rw [bcl_len]; omega)
  obtain ⟨v2, W2, hr1, ho1, hg1⟩ := run_copy (ty := 33) Try.underlying33 infoXb rfl (by decide) (World.ownsRow_nil W W.heap.size 82 2) (A := some ⟨g, o, none⟩) (m := i) (cp := c) (ys := bcl (M.take i)) (by rw [bcl_len, List.length_take]; omega) (by rw [bcl_take]; exact hcl.take _) (fun e => nomatch e) (bcl_one _) (by omega) (by decide) (Nat.le_refl _)
  rw [Nat.zero_add, List.nil_append] at ho1
  have b2 : Below W.heap.size W W2 := below_grown hg1 (Nat.le_refl _) (by simp [Value.ownBlock])
  obtain ⟨A4, hrr, hno, hA4⟩ := rest_part Try.underlying33 infoXb (by decide) g o M.length c (i + 1) (by omega)
  obtain ⟨v3, W3, hr3, ho3, hg3⟩ := run_copy (ty := 33) Try.underlying33 infoXb rfl (by decide) ho1 (c := fun _ => True) (A := A4) (m := M.length - (i + 1)) (cp := c - (i + 1)) (ys := bcl (M.drop (i + 1))) (by rw [bcl_len, List.length_drop]) (by
    intro h0
    have h1 : i + 1 < c := by rw [bcl_len, List.length_drop] at h0; omega
    rw [hA4 h1, bcl_drop] at *
    exact ((hcl.below b2).drop _) h0) (fun e => absurd e (fun e => hno e)) (bcl_one _) (by omega) (by decide) b2.size
  rw [← bcl_app] at ho3
  have b3 : Below W.heap.size W W3 := b2.trans (below_grown hg3 b2.size fun g e => (ho1.lt g e).1)
  have hlen : i + (M.length - (i + 1)) = (M.take i ++ M.drop (i + 1)).length := by rw [List.length_append, List.length_take, List.length_drop]; omega
  rw [hlen] at ho3
  obtain ⟨A3, c3, rfl, hc3, hA3, ht3⟩ := Tw.own ho3
  exact ⟨v2, W2, A3, c3, W3, A4, head_part Try.underlying33 infoXb _ _ c i (by omega), hr1, hrr, hr3, hc3, hA3, ht3, b2, b3⟩
/-- An order of the document's, a body and whether there is one come back; nothing that was there has turned. -/
def GivesNt (W : World) (B n : Int) (L : List ByteArray) (s : ByteArray) (is : Bool) (e : Ending) (w' : World) : Prop :=
  ∃ A c M, e = .returned (.tuple #[roV B n A M.length c, .string s, .bool is]) ∧ M.length ≤ c ∧ (A = none → c = 0) ∧ Bw w' A M ∧ Rel B L M ∧ Below W.heap.size W w'
set_option maxRecDepth 100000 in
set_option maxHeartbeats 1600000 in
theorem rnext_any (B n : Int) (A : Option Addr) (c : Nat) (L : List ByteArray) (M : List Xb) (room : Int) (w : World) (h : Bw w A M) (hc : M.length ≤ c) (hA : A = none → c = 0) (hR : Rel B L M) (hB : U32 B) (hl : L.length ≤ 64) :
    Calls Try.prog 58 #[roV B n A M.length c, .int .i64 room] w (GivesNt w (nxBs B L room) n (nxL L room) (nxS L room) (nxO L room)) := by
  obtain ⟨W, HW, A1, A2, B1, hs⟩ := oboxes B n A M.length c w
  have HM64 := Lib.hid (hR.few hl)
  have HT := Lib.hid (rat_any B n A c M B W (h.below B1) (by have := HM64.out; omega))
  have HU := Lib.hid (h.below B1)
  have HC := Lib.hid (And.intro hc (And.intro hA hR))
  have HUB := Lib.hid hB
  have HLL := Lib.hid hl
  have HA1 := Lib.hid A1
  have HA2 := Lib.hid A2
  have HB := Lib.hid B1
  have HS := Lib.hid hs
  have c0 := A1.cell 0 rfl
  have c1 := A1.cell 1 rfl
  have c2 := A1.cell 2 rfl
  have HK : Hid (∀ V, Below W.heap.size W V → At V w.heap.size 35 (roC B n A M.length c) ∧ At V (w.heap.size + 1) 35 [.int .u32 0, .int .i64 0, .slice none 0 0] ∧ Bw V A M ∧ Below w.heap.size w V) := Lib.hid fun V g =>
    ⟨HA1.out.below g HA1.out.lt, HA2.out.below g HA2.out.lt, HU.out.below g, HB.out.trans (g.mono HB.out.size)⟩
  have hml : (M.length : Int) ≤ 64 := by have := HM64.out; omega
  have hml0 : (0 : Int) ≤ (M.length : Int) := Int.natCast_nonneg _
  clear A1 A2 B1 h hc hA hs hB hR hl
  go_enter Try.func58, Try.ntmps58
  go_wp2_with fail
  rw [← HW]; clear HW
  refine HT.out.mono ?_; rintro e w2 ⟨z, rfl, hz, k2⟩
  obtain ⟨P1, P2, P3, P4⟩ := HK.out _ k2
  have H1 := Lib.hid P1
  have H2 := Lib.hid P2
  have H3 := Lib.hid P3
  have H4 := Lib.hid P4
  clear P1 P2 P3 P4 k2 c0 c1 c2
  have c0 := H1.out.cell 0 rfl
  have c1 := H1.out.cell 1 rfl
  have c2 := H1.out.cell 2 rfl
  have x0 := H2.out.cell 0 rfl
  have x1 := H2.out.cell 1 rfl
  have x2 := H2.out.cell 2 rfl
  have y0 := H2.out.free 0
  have y1 := H2.out.free 1
  have y2 := H2.out.free 2
  rcases hz with ⟨rfl, hno⟩ | ⟨i, s, rfl, hi⟩
  · obtain ⟨e1, e2, e3, e4⟩ := nx_no (B := B) (L := L) (room := room) (.inl (HC.out.2.2.none_ HUB.out hno))
    have HG : Hid (∀ e w', GivesNt w B n L S0 false e w' → GivesNt w (nxBs B L room) n (nxL L room) (nxS L room) (nxO L room) e w') := Lib.hid fun e w' q => by rw [e1, e2, e3, e4]; exact q
    clear e1 e2 e3 e4 hno
    go_wp2_with fail
    exact bodyPost_ret (v := .tuple #[roV B n A M.length c, .string { data := #[] }, .bool false]) (res_rnext rfl rfl rfl (oset3_at H2.out)) rfl (HG.out _ _ ⟨A, c, M, rfl, HC.out.1, HC.out.2.1, bw_oset3 H3.out H2.out, HC.out.2.2, oset3_below H4.out (Nat.le_refl _) (by omega)⟩)
  · obtain ⟨hs, he⟩ := HC.out.2.2.head HUB.out HLL.out (List.mem_of_getElem? hi)
    have him := (List.getElem?_eq_some_iff.1 hi).1
    obtain ⟨g, o, hAg, _, d0, d1⟩ := Bw.at_ H3.out hi
    have HI := Lib.hid hi
    have him' : (i : Int) < (M.length : Int) := by omega
    have hi0 : (0 : Int) ≤ (i : Int) := Int.natCast_nonneg _
    dsimp only at d0 d1
    by_cases hroom : room < (s.size : Int)
    · obtain ⟨e1, e2, e3, e4⟩ := nx_no (B := B) (L := L) (room := room) (.inr (by rw [hs]; exact hroom))
      have HG : Hid (∀ e w', GivesNt w B n L S0 false e w' → GivesNt w (nxBs B L room) n (nxL L room) (nxS L room) (nxO L room) e w') := Lib.hid fun e w' q => by rw [e1, e2, e3, e4]; exact q
      subst hAg
      clear e1 e2 e3 e4 hi hs he
      go_wp2_with fail
      exact bodyPost_ret (v := .tuple #[roV B n (some ⟨g, o, none⟩) M.length c, .string { data := #[] }, .bool false]) (res_rnext rfl rfl rfl (oset3_at H2.out)) rfl (HG.out _ _ ⟨some ⟨g, o, none⟩, c, M, rfl, HC.out.1, HC.out.2.1, bw_oset3 H3.out H2.out, HC.out.2.2, oset3_below H4.out (Nat.le_refl _) (by omega)⟩)
    · obtain ⟨e1, e2, e3, e4⟩ := nx_yes (B := B) (L := L) (room := room) (by rw [hs]; exact he) (by rw [hs]; omega)
      have HG : Hid (∀ e w', GivesNt w (wpl B 1) n (L.drop 1) s true e w' → GivesNt w (nxBs B L room) n (nxL L room) (nxS L room) (nxO L room) e w') := Lib.hid fun e w' q => by rw [e1, e2, e3, e4, hs]; exact q
      have HR := Lib.hid (HC.out.2.2.next HUB.out HLL.out hi)
      obtain ⟨v3, W3, A4, c4, W4, A5, hr0, hr1, hr2, hr3, hc4, hA4, hw4, b3, b4⟩ := cut_runs H3.out HC.out.1 HM64.out him
      have HCC : Hid (M.length ≤ c) := Lib.hid HC.out.1
      have hic : (i : Int) ≤ (c : Int) := by have := HC.out.1; omega
      have c2' := (H1.out.below b3 H1.out.lt).cell 2 rfl
      have Q1 := H1.out.below b4 H1.out.lt
      have Q2 := H2.out.below b4 H2.out.lt
      have q2 := Q1.cell 2 rfl
      have q3 := Q1.free 2
      have q0 := Q1.cell 0 rfl
      have q1 := Q1.free 0
      obtain ⟨m2, hm2⟩ : ∃ m2, m2 = (M.take i ++ M.drop (i + 1)).length := ⟨_, rfl⟩
      have HM2 := Lib.hid hm2
      rw [← hm2] at hr3 hc4
      have S1 := (Q1.set_ 2 (.slice A4 m2 c4)).set_ 0 (.int .u32 (wpl B 1))
      have S2 := (Q2.far (p := ⟨w.heap.size, 2, none⟩) (by show w.heap.size + 1 ≠ w.heap.size; omega) (.slice A4 m2 c4)).far (p := ⟨w.heap.size, 0, none⟩) (by show w.heap.size + 1 ≠ w.heap.size; omega) (.int .u32 (wpl B 1))
      have HS1 := Lib.hid S1
      have HS2 := Lib.hid S2
      have HW4 := Lib.hid (Tw.set_ (Tw.set_ hw4 Q1 ro_ne 2 (.slice A4 m2 c4)) (Q1.set_ 2 (.slice A4 m2 c4)) ro_ne 0 (.int .u32 (wpl B 1)))
      have HB4 := Lib.hid (pset_below (j := 0) (v := .int .u32 (wpl B 1)) (pset_below (j := 2) (v := .slice A4 m2 c4) (H4.out.trans (b4.mono H4.out.size)) (Nat.le_refl _) (Nat.le_refl w.heap.size)) (Nat.le_refl _) (Nat.le_refl w.heap.size))
      have HC4 := Lib.hid (And.intro hc4 hA4)
      have hwx : (B + 1) % 4294967296 = wpl B 1 := rfl
      subst hAg
      clear e1 e2 e3 e4 hi hs he Q1 Q2 S1 S2 hw4 b3 b4 hc4 hA4 hm2
      go_upto_region 7 with (at_builtin; refine Lib.wpList_append_run _ rfl _ _ _ _ rfl _ _ rfl rfl _ _ hr1 ?_)
      clear hr1 d0 d1 hr0 c0 c1 c2 x0 x1 x2 y0 y1 y2
      go_upto_region 9 with (at_builtin; refine Lib.wpList_append_run _ rfl _ _ _ _ rfl _ _ rfl rfl _ _ hr3 ?_)
      change Code.wp _ _ _ _ ((W4.setCell ⟨w.heap.size, 2, none⟩ (.slice A4 m2 c4)).setCell ⟨w.heap.size, 0, none⟩ (.int .u32 (wpl B 1)))
      generalize (W4.setCell ⟨w.heap.size, 2, none⟩ (.slice A4 m2 c4)).setCell ⟨w.heap.size, 0, none⟩ (.int .u32 (wpl B 1)) = W5 at *
      clear q0 q1 q2 q3 hr3 hr2 c2'
      have c0 := HS1.out.cell 0 rfl
      have c1 := HS1.out.cell 1 rfl
      have c2 := HS1.out.cell 2 rfl
      have x0 := HS2.out.cell 0 rfl
      have x1 := HS2.out.cell 1 rfl
      have x2 := HS2.out.cell 2 rfl
      have y0 := HS2.out.free 0
      have y1 := HS2.out.free 1
      have y2 := HS2.out.free 2
      go_wp2_with fail
      refine bodyPost_ret (v := .tuple #[roV (wpl B 1) n A4 m2 c4, .string s, .bool true]) (res_rnext rfl rfl rfl (oset3_at HS2.out)) rfl (HG.out _ _ ⟨A4, c4, M.take i ++ M.drop (i + 1), by rw [HM2.out], by rw [← HM2.out]; exact HC4.out.1, HC4.out.2, bw_oset3 HW4.out HS2.out, HR.out, oset3_below HB4.out (Nat.le_refl _) (by omega)⟩)
end Go.Proofs.Ytedecminaopgaaa

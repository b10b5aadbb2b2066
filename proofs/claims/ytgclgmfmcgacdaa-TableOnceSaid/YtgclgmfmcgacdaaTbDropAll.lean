/- Proved: what Drop of package table leaves. Conditions: those that the theorems name. -/
import Derived.Test.YtgclgmfmcgacdaaTbDrop
namespace Go.Proofs.Ytgclgmfmcgacdaa
open Go.ChangeShapes Go.WideShapes Go.ChangeAt Go.RowKit Go.MuLone
/-- these parts are locked. -/
def lockN (k : Nat) : Nat → Int := fun j => if j < k then 1 else 0
theorem lockN_zero : lockN 0 = fun _ => 0 := by funext j; simp [lockN]
theorem lockN_next (k : Nat) : upd (lockN k) k 1 = lockN (k + 1) := by
  funext j
  unfold upd lockN
  by_cases e : j = k
  · subst e; simp
  · rw [if_neg e]
    by_cases f : j < k
    · rw [if_pos f, if_pos (by omega)]
    · rw [if_neg f, if_neg (by omega)]
theorem lockN_back (k : Nat) : upd (lockN (k + 1)) k 0 = lockN k := by
  funext j
  unfold upd lockN
  by_cases e : j = k
  · subst e; simp
  · rw [if_neg e]
    by_cases f : j < k
    · rw [if_pos f, if_pos (by omega)]
    · rw [if_neg f, if_neg (by omega)]
theorem Rr.append_any {w : World} {c d : Nat → Prop} {v v2 : Value} {ps qs : List Nat} (h : Rr w c v ps) (k : Rr w d v2 qs) (hn : ps.length + qs.length ≤ 65536) (ty : TypeId) :
    ∃ v' w', (Builtin.append_ #[91, 91] ty #[v, v2]).run Try.prog w = .ok v' w' ∧ Rr w' (fun g => c g ∨ w.heap.size ≤ g) v' (ps ++ qs) ∧ Tn c w w' := by
  obtain ⟨i, hi, hz0, hz1, hz2⟩ := info_parts infoPt
  have ht := Try.underlying91
  rcases k.1.2 with ⟨rfl, h0⟩ | ⟨g, cap, cur, rfl, _⟩
  · obtain rfl : qs = [] := List.eq_nil_of_length_eq_zero (by simpa using h0)
    refine ⟨v, w, run_append_owned_none (P := Try.prog) (w := w) 0 _ ty _ i 1 ht hi v _ _ h.1, ?_, Tn.refl _ _⟩
    rw [List.append_nil]
    exact h.mono fun _ _ e => .inl e
  · have hnews : ∀ j u, (qs.map ptv)[j]? = some u → w.cell? ((⟨g, 0, none⟩ : Addr).add j) = some u := fun j u hj => k.1.cells (g := g) rfl j u hj
    obtain ⟨v', w', hr, h2, h3, _, h5⟩ := run_append_own_at (P := Try.prog) w 0 _ ty _ i _ 1 8 ht hi hz0 hz1 hz2 rfl (by omega) v ps.length _ h.1 ⟨g, 0, none⟩ qs.length cap (qs.map ptv) (by simp) hnews (ptcells_one _) (by unfold maxLen; omega) (by omega) (Nat.zero_le _)
    rw [← List.map_append] at h2
    refine ⟨v', w', hr, ⟨by rw [List.length_append]; exact h2, fun g' e => ?_⟩, tn_grown h3 h.2⟩
    rcases h5 with h5 | h5
    · exact .inl (h.2 g' (by rw [← h5]; exact e))
    · right
      rw [h5] at e
      injection e with e
      omega
theorem gone_next {X : List En} {n k : Nat} {s : Int} {gs g3 : List Nat} (hp : (X.map En.p).Nodup) (hn : gs.Nodup) (hm : ∀ q, q ∈ gs ↔ ∃ e ∈ X, e.k.1 = s ∧ pj n e.k < k ∧ e.p = q)
    (hn3 : g3.Nodup) (hm3 : ∀ q, q ∈ g3 ↔ ∃ e ∈ X, e.k.1 = s ∧ pj n e.k = k ∧ e.p = q) : (gs ++ g3).Nodup ∧ ∀ q, q ∈ gs ++ g3 ↔ ∃ e ∈ X, e.k.1 = s ∧ pj n e.k < k + 1 ∧ e.p = q := by
  refine ⟨List.nodup_append.2 ⟨hn, hn3, fun a ha b hb f => ?_⟩, fun q => ?_⟩
  · obtain ⟨e, he, _, h1, h2⟩ := (hm a).1 ha
    obtain ⟨e', he', _, h1', h2'⟩ := (hm3 b).1 hb
    have := ptr_one hp he he' (by rw [h2, h2', f])
    subst this
    omega
  · rw [List.mem_append, hm, hm3]
    constructor
    · rintro (⟨a, ha, h1, h2, h3⟩ | ⟨a, ha, h1, h2, h3⟩)
      · exact ⟨a, ha, h1, by omega, h3⟩
      · exact ⟨a, ha, h1, by omega, h3⟩
    · rintro ⟨a, ha, h1, h2, h3⟩
      by_cases f : pj n a.k = k
      · exact .inr ⟨a, ha, h1, f, h3⟩
      · exact .inl ⟨a, ha, h1, by omega, h3⟩
theorem gone_len {X : List En} {gs : List Nat} (hn : gs.Nodup) (hm : ∀ q ∈ gs, ∃ e ∈ X, e.p = q) : gs.length ≤ X.length := by
  have := nodup_len (r := X.map En.p) hn (fun x hx => by
    obtain ⟨a, ha, f⟩ := hm x hx
    exact List.mem_map.2 ⟨a, ha, f⟩)
  rwa [List.length_map] at this
/-- how many are gone. -/
theorem gone_many {X : List En} {s : Int} {gs : List Nat} (hp : (X.map En.p).Nodup) (hn : gs.Nodup) (hm : ∀ q, q ∈ gs ↔ ∃ e ∈ X, e.k.1 = s ∧ e.p = q) :
    gs.length = (X.filter fun e => decide (e.k.1 = s)).length ∧ ((keepX X fun k => !decide (k.1 = s)).length : Int) = (X.length : Int) - (gs.length : Int) := by
  have h1 : gs.length ≤ (X.filter fun e => decide (e.k.1 = s)).length := gone_len hn fun q hq => by
    obtain ⟨e, he, h1, h2⟩ := (hm q).1 hq
    exact ⟨e, List.mem_filter.2 ⟨he, by simpa using h1⟩, h2⟩
  have h2 := nodup_len (l := (X.filter fun e => decide (e.k.1 = s)).map En.p) (r := gs) (hp.sublist (List.filter_sublist.map _)) fun x hx => by
    obtain ⟨e, he, f⟩ := List.mem_map.1 hx
    obtain ⟨he, h1⟩ := List.mem_filter.1 he
    exact (hm x).2 ⟨e, he, by simpa using h1, f⟩
  rw [List.length_map] at h2
  refine ⟨by omega, ?_⟩
  have h3 : X.length = (X.filter fun e => decide (e.k.1 = s)).length + (keepX X fun k => !decide (k.1 = s)).length := by
    unfold keepX
    clear hp hm h1 h2
    induction X with
    | nil => rfl
    | cons a r ih =>
      by_cases e : a.k.1 = s
      · simp [e] at ih ⊢; omega
      · simp [e] at ih ⊢; omega
  omega
/-- what part k has left. -/
structure GoneAt (w : World) (L : Ly) (n room : Nat) (X : List En) (s : Int) (k : Nat) (v : Value) (gs : List Nat) (wr : World) : Prop where
  le : k ≤ n
  st : St wr L n room X.length (keepX X (Qp n s k (fun _ => true))) X (lineP X) 0 (lockN n)
  row : Rr wr (fun g => L.col g = -1 ∧ szW w ≤ g) v gs
  nd : gs.Nodup
  mem : ∀ q, q ∈ gs ↔ ∃ e ∈ X, e.k.1 = s ∧ pj n e.k < k ∧ e.p = q
  tn : Tn (Mine L) w wr
theorem GoneAt.next {w wr w3 w4 : World} {L : Ly} {n room : Nat} {X : List En} {s : Int} {k : Nat} {v v4 : Value} {gs g3 : List Nat} (h : GoneAt w L n room X s k v gs wr) (hk : k < n)
    (h3 : St w3 L n room X.length (keepX X (Qp n s (k + 1) (fun _ => true))) X (lineP X) 0 (lockN n)) (t3 : Tn (Mine L) wr w3) (t4 : Tn (fun g => L.col g = -1 ∧ szW w ≤ g) w3 w4)
    (hr4 : Rr w4 (fun g => (L.col g = -1 ∧ szW w ≤ g) ∨ w3.heap.size ≤ g) v4 (gs ++ g3)) (hn3 : g3.Nodup) (hm3 : ∀ q, q ∈ g3 ↔ ∃ e ∈ X, e.k.1 = s ∧ pj n e.k = k ∧ e.p = q) : GoneAt w L n room X s (k + 1) v4 (gs ++ g3) w4 := by
  obtain ⟨q1, q2⟩ := gone_next h3.pn h.nd h.mem hn3 hm3
  have hs : szW w ≤ w3.heap.size := Nat.le_trans h.tn.size t3.size
  refine ⟨hk, h3.tn t4 (fun g _ f => f.1), hr4.mono (fun g _ f => ?_), q1, q2, (h.tn.trans t3).trans' t4 (fun g hg f => absurd hg (by have := f.2; unfold szW at this; omega))⟩
  rcases f with f | f
  · exact f
  · exact ⟨h3.ahead g f, by omega⟩
theorem Qp_next (n : Nat) (s : Int) (j : Nat) : Qp n s j (fun _ => false) = Qp n s (j + 1) (fun _ => true) := by
  funext i
  unfold Qp
  by_cases e : i.1 = s
  · by_cases f : pj n i < j
    · simp [e, f, show pj n i < j + 1 by omega]
    · by_cases g : pj n i = j
      · simp [e, g]
      · simp [e, f, g, show ¬ pj n i < j + 1 by omega]
  · simp [e]
theorem Qp_zero (n : Nat) (s : Int) (X : List En) : keepX X (Qp n s 0 (fun _ => true)) = X := by
  unfold keepX Qp
  rw [List.filter_eq_self]
  intro e _
  simp
theorem Qp_last {n : Nat} (hn : 0 < n) (s : Int) : Qp n s n (fun _ => true) = fun k => !decide (k.1 = s) := by
  funext i
  unfold Qp
  simp [pj_lt hn i]
/-- while the parts are locked. -/
structure LockAt (w : World) (L : Ly) (n room : Nat) (X : List En) (k : Nat) (wr : World) : Prop where
  le : k ≤ n
  st : St wr L n room X.length X X (lineP X) 0 (lockN k)
  tn : Tn (Mine L) w wr
/-- the unlocks that are still to be made. -/
def defsL (L : Ly) : Nat → List Deferred
  | 0 => []
  | k + 1 => { target := .fn (.func 26) #[], args := #[.pointer (some ⟨L.gp, k * 3, none⟩)] } :: defsL L k
section
variable {w w' : World} {L : Ly} {n room : Nat} {X : List En}
/-- all that is to be unlocked, is. -/
theorem unlock_all {m : Int} {XM XN : List En} {U : List Nat} {fn : Func} {tmps : Array Value} {R : Ending → World → Prop} : ∀ (k : Nat), k ≤ n → ∀ w1, St w1 L n room m XM XN U 0 (lockN k) →
    (∀ w2, St w2 L n room m XM XN U 0 (fun _ => 0) → Tn (Mine L) w1 w2 → ∃ v, (results fn tmps).run Try.prog w2 = .ok v w2 ∧ R (.returned v) w2) → Leaves Try.prog fn tmps R (defsL L k) .returning w1
  | 0, _, w1, h, hR => hR w1 (by rw [← lockN_zero]; exact h) (Tn.refl _ _)
  | k + 1, hk, w1, h, hR => by
    refine leaves_cons (f := 26) (args := #[.pointer (some ⟨L.gp, k * 3, none⟩)]) (by simp) (by simp [go_sem]) ?_
    refine (tb_punlock h (by omega) (by unfold lockN; rw [if_pos (by omega)]) .returning).mono ?_
    rintro e u' w2 ⟨rfl, rfl, h2, t2⟩
    rw [lockN_back] at h2
    exact unlock_all k (by omega) w2 h2 (fun w3 h3 t3 => hR w3 h3 ((t2.g h).trans t3))
set_option maxRecDepth 100000 in
set_option maxHeartbeats 3200000 in
theorem tb_drop {s : Int} (h : Tb w L n room X) :
    Calls Try.prog 15 #[ptv L.b, .int .i64 s] w fun e w' => e = .returned (.int .i64 ((X.filter fun e => decide (e.k.1 = s)).length : Nat)) ∧ Tb w' L n room (keepX X (fun k => !decide (k.1 = s))) ∧ Tn (Mine L) w w' := by
  have HH := Lib.hid h
  have HN := Lib.hid (And.intro h.n1 h.n64)
  have c0 := h.st.tab.cell 0 rfl
  clear h
  go_enter_defers Try.func15, Try.ntmps15
  go_wp2_with fail
  have HI : Hid (LockAt w L n room X 0 w) := Lib.hid ⟨by omega, by rw [lockN_zero]; exact HH.out.st, Tn.refl _ _⟩
  refine wp_loop (fun a' w' => ∃ k : Nat, ∃ u5 u16 u17 u18 u19 u20 u21 u22 u23 u24 u25 u26 u27 u28 u29 u30 u31 u32 u33, LockAt w L n room X k w' ∧ a' = { tmps := #[ptv L.b, .int .i64 s, undef, undef, .int .i64 0, u5, undef, undef, ptv L.b, .bool false, ptv L.b, .pointer (some ⟨L.b, 0, none⟩), .pointer (some ⟨L.b, 0, none⟩), .slice (some ⟨L.gp, 0, none⟩) n n, .int .i64 n, .int .i64 k, u16, u17, u18, u19, u20, u21, u22, u23, u24, u25, u26, u27, u28, u29, u30, u31, u32, u33, undef, undef, undef, undef, undef, undef, undef, undef, undef, undef, undef, undef, undef, undef, undef, undef, undef, undef, undef, undef, undef, undef, undef, undef, undef, undef], defers := defsL L k }) (fun a' _ => n - (intOf (a'.tmps.getD 15 undef)).toNat) ?_ ?_
  · refine ⟨0, ?_⟩
    repeat apply Exists.intro
    exact ⟨HI.out, rfl⟩
  · rintro _ wr ⟨k, u5, u16, u17, u18, u19, u20, u21, u22, u23, u24, u25, u26, u27, u28, u29, u30, u31, u32, u33, hrel, rfl⟩
    dsimp only
    clear HI c0
    have HR := Lib.hid hrel.st
    have HT := Lib.hid hrel.tn
    have hk := hrel.le
    clear hrel
    have hk0 : (0 : Int) ≤ (k : Int) := Int.natCast_nonneg _
    by_cases hlt : k < n
    · have hlt' : (k : Int) < (n : Int) := by omega
      have HLT := Lib.hid hlt
      have c0 := HR.out.tab.cell 0 rfl
      go_wp2_with fail
      have hl := tb_plock HR.out hlt (by unfold lockN; rw [if_neg (by omega)])
      refine hl.mono ?_; rintro e w3 ⟨rfl, h3, t3⟩
      rw [lockN_next] at h3
      have T3 := Lib.hid (HT.out.trans (t3.g HR.out))
      have H3 := Lib.hid h3
      clear h3 t3 HR HT hl c0
      have c0 := H3.out.tab.cell 0 rfl
      go_wp2_with fail
      have hwr : wrap64 ((k : Int) + 1) = ((k + 1 : Nat) : Int) := by
        have := HN.out.2
        unfold wrap64
        omega
      simp only [hwr]
      refine ⟨⟨k + 1, ?_⟩, ?measure⟩
      · repeat apply Exists.intro
        exact ⟨⟨HLT.out, H3.out, T3.out⟩, rfl⟩
      case measure => simp [intOf]; omega
    · have hlt' : ¬ (k : Int) < (n : Int) := by omega
      obtain rfl : n = k := by omega
      have c0 := HR.out.tab.cell 0 rfl
      clear hlt hk
      have HGO : Hid (GoneAt w L n room X s 0 (.slice none 0 0) [] wr) := Lib.hid ⟨Nat.zero_le _, by rw [Qp_zero]; exact HR.out, Rr.nil _ _, List.nodup_nil, fun q => ⟨(fun e => nomatch e), (fun f => by obtain ⟨e, _, _, f, _⟩ := f; omega)⟩, HT.out⟩
      go_wp2_with fail
      clear HR HT c0 hlt' hk0
      go_loopw [6, 39] (fun v i wr => ∃ (k : Nat) (gs : List Nat), i = .int .i64 k ∧ GoneAt w L n room X s k v gs wr) (fun _ i _ => n - (intOf i).toNat)
      case atStart => exact ⟨0, [], rfl, HGO.out⟩
      case round =>
        obtain ⟨k, gs, rfl, hgo⟩ := hrel
        have HG := Lib.hid hgo
        have hk := hgo.le
        clear hgo HGO
        have hk0 : (0 : Int) ≤ (k : Int) := Int.natCast_nonneg _
        by_cases hlt : k < n
        · have hlt' : (k : Int) < (n : Int) := by omega
          have HLT := Lib.hid hlt
          have c0 := HG.out.st.tab.cell 0 rfl
          go_wp2_with fail
          have hd := part_drop HG.out.st HH.out.wf hlt HN.out.2
          refine hd.mono ?_; rintro e w3 ⟨v3, gs3, rfl, h3, hr3, hn3, hm3, t3⟩
          have hr := HG.out.row.tn t3 (fun g _ f e => e f.1)
          have hqn := gone_next h3.pn HG.out.nd HG.out.mem hn3 hm3
          have hl := gone_len hqn.1 (X := X) (fun q hq => by obtain ⟨e, he, _, _, f⟩ := (hqn.2 q).1 hq; exact ⟨e, he, f⟩)
          rw [List.length_append] at hl
          obtain ⟨v4, w4, hrun, hr4, t4⟩ := hr.append_any hr3 (by have := HH.out.wf.len; have := HH.out.wf.room; omega) 91
          rw [Qp_next] at h3
          have HN4 := Lib.hid (HG.out.next HLT.out h3 t3 t4 hr4 hn3 hm3)
          clear hd h3 hr3 hn3 hm3 t3 hr hqn hl hr4 t4 c0
          go_wp2_with (at_builtin; refine Lib.wpList_append_run _ rfl _ _ _ _ rfl _ _ rfl rfl _ _ hrun ?_)
          have hwr : wrap64 ((k : Int) + 1) = ((k + 1 : Nat) : Int) := by
            have := HN.out.2
            unfold wrap64
            omega
          simp only [hwr]
          go_roundw
          case rel => exact ⟨k + 1, _, rfl, HN4.out⟩
          case measure => simp [intOf]; omega
        · have hlt' : ¬ (k : Int) < (n : Int) := by omega
          obtain rfl : n = k := by omega
          clear hlt hk
          go_wp2_with fail
          have hpos : 0 < n := by have := HN.out.1; omega
          have hm2 : ∀ q, q ∈ gs ↔ ∃ e ∈ X, e.k.1 = s ∧ e.p = q := fun q => by
            rw [HG.out.mem]
            constructor
            · rintro ⟨e, he, h1, _, h2⟩; exact ⟨e, he, h1, h2⟩
            · rintro ⟨e, he, h1, h2⟩; exact ⟨e, he, h1, pj_lt hpos e.k, h2⟩
          have hpn := HH.out.st.pn
          obtain ⟨hmany, hleft⟩ := gone_many hpn HG.out.nd hm2
          have hgl : gs.length ≤ X.length := gone_len HG.out.nd (fun q hq => by obtain ⟨e, he, _, f⟩ := (hm2 q).1 hq; exact ⟨e, he, f⟩)
          have hfg := tb_forget HG.out.st ⟨by omega, by have := HH.out.wf.len; have := HH.out.wf.room; omega⟩ (HG.out.row.mono fun _ _ f => f.1) HG.out.nd (by omega) (fun g hg => by
            obtain ⟨e, he, _, f⟩ := (hm2 g).1 hg
            subst f
            exact ⟨e, he, rfl, (HH.out.wf.ok e he).l0, ready_line hpn he⟩)
          have hln : restU (lineP X) gs gs.length = lineP (keepX X fun k => !decide (k.1 = s)) := line_rest (fun k => !decide (k.1 = s)) fun a ha => by
            rw [hm2]
            simp only [Bool.not_eq_false', decide_eq_true_eq]
            constructor
            · rintro ⟨e, he, h1, h2⟩; rw [ptr_one hpn ha he h2.symm]; exact h1
            · intro f; exact ⟨a, ha, f, rfl⟩
          rw [hln, ← hleft, Qp_last hpos] at hfg
          obtain ⟨A, cap, rfl⟩ := HG.out.row.len
          refine hfg.mono ?_
          rintro e w5 ⟨rfl, h5, t5⟩
          have H5 := Lib.hid (h5.sub (XN' := keepX X fun k => !decide (k.1 = s)) List.filter_sublist (line_sub (fun k => !decide (k.1 = s)) rfl))
          have T5 := Lib.hid (HG.out.tn.trans t5)
          have HMY := Lib.hid hmany
          clear h5 t5 hfg hln hgl hleft hmany hm2
          go_wp2_with fail
          refine unlock_all n (Nat.le_refl _) w5 H5.out (fun w6 h6 t6 => ⟨_, results_tmp rfl _ _ _, by rw [HMY.out]; rfl, ⟨h6, wf_keep HH.out.wf _, HN.out.1, HN.out.2⟩, T5.out.trans t6⟩)
end
end Go.Proofs.Ytgclgmfmcgacdaa

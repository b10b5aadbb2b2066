/- Proved: what Due of package flight answers, of a flight and of none. Conditions: those that the theorems name. -/
import Derived.Test.YtgnalabblhokmaaFlDueM
import Derived.Maps.AppendAt
import Derived.RangeFuncBox
namespace Go.Proofs.Ytgnalabblhokmaa
open Go.ChangeShapes Go.WideShapes Go.ChangeAt Go.RowKit
attribute [local go_sem] Oper.semAt_some

/-- what holds between two rounds. -/
structure DueR (p : Option Addr) (nx : Int) (r : Option Nat) (v : Value) (L : List Bl) (k : Nat) (now wait : Int) (n0 : Nat) (w : World) (s : List Bl × List Int) (W : World) : Prop where
  out : ∃ u, Boxed W (n0 + 1 + 1) 34 u ∧ W.ownsRow n0 22 1 u s.2.length (ucells s.2)
  fl : FlO W p nx r v s.1
  b0 : Boxed W n0 3 (.int .i64 now)
  b1 : Boxed W (n0 + 1) 3 (.int .i64 wait)
  b3 : Boxed W (n0 + 1 + 1 + 1) 25 (.pointer p)
  tn : Tn (fun i => r = some i) w W
theorem DueR.own {p : Option Addr} {nx : Int} {r : Option Nat} {v : Value} {L : List Bl} {k : Nat} {now wait : Int} {n0 : Nat} {w : World} {s : List Bl × List Int} {W W' : World} {row : Option Nat} {B : Nat}
    (h : DueR p nx r v L k now wait n0 w s W) (hg : W.grownBy W' row) (hr : ∀ i, row = some i → B ≤ i ∧ ∃ o : Obj, W.heap[i]? = some o ∧ o.isCells = false) (hB : w.heap.size ≤ B) : DueR p nx r v L k now wait n0 w s W' := by
  have hc : ∀ i, row = some i → ∃ o : Obj, W.heap[i]? = some o ∧ o.isCells = false := fun i e => (hr i e).2
  obtain ⟨u, hu, ho⟩ := h.out
  refine ⟨⟨u, boxed_own_ hu hg hc, ho.kept hg ?_⟩, h.fl.kept hg hc, boxed_own_ h.b0 hg hc, boxed_own_ h.b1 hg hc, boxed_own_ h.b3 hg hc, tn_own h.tn hg (fun i e => (hr i e).1) hB⟩
  rcases ho.2 with ⟨rfl, _⟩ | ⟨g, cap, cur, rfl, _, hgb, _⟩
  · exact .inl rfl
  · refine .inr fun e' => ?_
    obtain ⟨o, ho', hc'⟩ := hc g (by simpa [Value.ownBlock] using e'.symm)
    rw [hgb] at ho'; cases ho'; cases hc'
theorem DueR.keeps {p : Option Addr} {nx : Int} {r : Option Nat} {v : Value} {L : List Bl} {k : Nat} {now wait : Int} {n0 : Nat} {w : World} {s' : List Bl × List Int} {W W' : World}
    (h : DueR p nx r v L k now wait n0 w s' W') (hl : s'.1.length = k) : KeepsFl (n0 + 1 + 1 + 1) p nx v k W W' :=
  ⟨fun _ => h.b3.cell, fun _ => by have := h.fl.c; rw [hl] at this; exact this⟩

section
variable {p : Option Addr} {nx : Int} {r : Option Nat} {v : Value} {L : List Bl} {k : Nat} {now wait : Int} {n0 : Nat} {w : World} {s : List Bl × List Int} {W : World}
theorem DueR.drew (h : DueR p nx r v L k now wait n0 w s W) : DueR p nx r v L k now wait n0 w s W.drew :=
  h.own (B := w.heap.size) (grown_drew W none) (fun _ e => (nomatch e)) (Nat.le_refl _)
theorem DueR.size (h : DueR p nx r v L k now wait n0 w s W) : n0 + 4 ≤ W.heap.size := h.b3.lt
/-- a block counts as sent now. -/
theorem DueR.store {g o cap f m : Nat} {wd : Int} (h : DueR p nx r (.slice (some ⟨g, o, none⟩) m cap) L k now wait n0 w s W) (hm : s.1.length = m) (hp : p = some ⟨f, 0, none⟩) (hf : Fl W f wd nx r (.slice (some ⟨g, o, none⟩) s.1.length cap) s.1) (hg : g < n0) {i : Nat} (hi : i < m) :
    DueR p nx r (.slice (some ⟨g, o, none⟩) m cap) L k now wait n0 w (s.1.set i { s.1.getD i bl0 with at_ := now }, s.2) (W.setCell ⟨g, o + i * 3 + 2, none⟩ (.int .i64 now)) ∧
      ∀ u, Boxed W (n0 + 1 + 1) 34 u → W.ownsRow n0 22 1 u s.2.length (ucells s.2) → Boxed (W.setCell ⟨g, o + i * 3 + 2, none⟩ (.int .i64 now)) (n0 + 1 + 1) 34 u ∧ (W.setCell ⟨g, o + i * 3 + 2, none⟩ (.int .i64 now)).ownsRow n0 22 1 u s.2.length (ucells s.2) := by
  subst hm
  have hgr := grown_set W ⟨g, o + i * 3 + 2, none⟩ (.int .i64 now)
  have bx : ∀ {b : Nat} {t : TypeId} {u : Value}, n0 ≤ b → Boxed W b t u → Boxed (W.setCell ⟨g, o + i * 3 + 2, none⟩ (.int .i64 now)) b t u := fun hb hx => hx.kept hgr (fun e => by injection e with e; have e : _ = g := e; omega)
  have row : ∀ u, W.ownsRow n0 22 1 u s.2.length (ucells s.2) → (W.setCell ⟨g, o + i * 3 + 2, none⟩ (.int .i64 now)).ownsRow n0 22 1 u s.2.length (ucells s.2) := fun u ho => by
    refine ho.kept hgr ?_
    rcases ho.2 with ⟨rfl, _⟩ | ⟨q, c', cur, rfl, hq, _⟩
    · exact .inl rfl
    · refine .inr fun e' => ?_
      have e' : q = g := by simpa [Value.ownBlock] using e'
      omega
  obtain ⟨u, hu, ho⟩ := h.out
  refine ⟨⟨⟨u, bx (by omega) hu, row u ho⟩, ?_, bx (by omega) h.b0, bx (by omega) h.b1, bx (by omega) h.b3, h.tn.trans (tn_grown hgr (fun q e => by injection e with e; rw [← e]; exact hf.lits (by omega)))⟩, fun u hu ho => ⟨bx (by omega) hu, row u ho⟩⟩
  have h2 := hf.sent (hf.lits (by omega)) hi now
  rw [← Nat.add_assoc] at h2
  exact .inr ⟨f, wd, hp, h2⟩
/-- its number is told. -/
theorem DueR.told {u v' : Value} {y : Int} {w1 : World} {tmp : Obj} (h : DueR p nx r v L k now wait n0 w s W) (hn : n0 = w.heap.size) (hlow : (∀ f, p = some (⟨f, 0, none⟩ : Addr) → f < n0) ∧ ∀ g, r = some g → g < n0)
    (hu : Boxed W (n0 + 1 + 1) 34 u) (ho : W.ownsRow n0 22 1 u s.2.length (ucells s.2)) (hown : w1.ownsRow n0 22 1 v' (s.2.length + 1) (ucells s.2 ++ [.int .u32 y])) (hgrow : (W.alloc tmp).grownBy w1 u.ownBlock) :
    Boxed w1 (n0 + 1 + 1) 34 u ∧ DueR p nx r v L k now wait n0 w (s.1, s.2 ++ [y]) (w1.setCell ⟨n0 + 1 + 1, 0, none⟩ v') ∧ KeepsOthers W (w1.setCell ⟨n0 + 1 + 1, 0, none⟩ v') := by
  have hsz := h.size
  obtain ⟨q1, q2, q3, q4, q5⟩ := hu.appended (n₀ := n0) (by decide) ho (by omega) (by omega) hown hgrow
  have bx : ∀ {b : Nat} {t : TypeId} {x : Value}, t ≠ 22 → b ≠ n0 + 1 + 1 → Boxed W b t x → Boxed (w1.setCell ⟨n0 + 1 + 1, 0, none⟩ v') b t x := fun ht hb hx =>
    ((hx.alloc tmp).kept hgrow (hx.not_row ht ho)).other hb _
  refine ⟨q1, ⟨⟨v', q2, ?_⟩, ?_, bx (by decide) (by omega) h.b0, bx (by decide) (by omega) h.b1, bx (by decide) (by omega) h.b3, ?_⟩, q4⟩
  · show World.ownsRow _ _ _ _ _ (s.2 ++ [y]).length (ucells (s.2 ++ [y]))
    rw [List.length_append, ucells_app]; exact q3
  · exact h.fl.tn (tn_at n0 q5) (fun f e => by have := hlow.1 f e; omega) (fun g e => by have := hlow.2 g e; omega)
  · exact h.tn.trans' (tn_at n0 q5) (fun i hi e => by omega)
end

set_option maxRecDepth 100000 in
set_option maxHeartbeats 4000000 in
theorem due_good (p : Option Addr) (nx : Int) (r : Option Nat) (v : Value) (L : List Bl) (now wait : Int) (w : World) (h : FlO w p nx r v L) (hok : dueOk now wait = true) :
    Calls Try.prog 8 #[.pointer p, .int .i64 now, .int .i64 wait] w fun e w' => ∃ A c, e = .returned (.slice A (dueL nx now wait L).2.length c) ∧ Uw w' A (dueL nx now wait L).2.length (dueL nx now wait L).2 ∧ FlO w' p nx r v (dueL nx now wait L).1 ∧ Tn (fun i => r = some i) w w' := by
  unfold dueL
  rw [if_pos hok]
  have HT := Lib.hid (fun w => timed_any now w)
  have HT2 := Lib.hid (fun w => timed_any wait w)
  unfold dueOk at hok
  rw [Bool.and_eq_true] at hok
  rw [hok.1] at HT
  rw [hok.2] at HT2
  obtain ⟨n1, n2⟩ : 0 ≤ now ∧ now ≤ 1099511627776 := by have := hok.1; unfold timeB at this; simpa using this
  obtain ⟨m1, m2⟩ : 0 ≤ wait ∧ wait ≤ 1099511627776 := by have := hok.2; unfold timeB at this; simpa using this
  clear hok
  have hk64 := Lib.hid h.n64
  have HC := Lib.hid h.c
  have HL := Lib.hid (fun (z : List Nat) (i : Nat) => dueF_snoc nx L.length (now - wait) now L z i)
  have HN := Lib.hid (fun (z : List Nat) => dueF_len nx L.length (now - wait) now L z)
  obtain ⟨k, hk⟩ : ∃ k, L.length = k := ⟨_, rfl⟩
  have hform : ∃ g o cap, 0 < k → v = .slice (some ⟨g, o, none⟩) k cap := by
    rcases Nat.eq_zero_or_pos k with e | e
    · exact ⟨0, 0, 0, fun h => by omega⟩
    · obtain ⟨f, wd, rfl, hf⟩ := h.some_ (by omega)
      obtain ⟨g, o, cap, h1, h2, _⟩ := hf.place (i := 0) (by omega)
      exact ⟨g, o, cap, fun _ => by rw [← hk]; exact h2⟩
  obtain ⟨g, o, cap, hrow⟩ := hform
  have HR := Lib.hid hrow
  have HF := Lib.hid h
  have hlow := Lib.hid (show (∀ f, p = some (⟨f, 0, none⟩ : Addr) → f < w.heap.size) ∧ ∀ g, r = some g → g < w.heap.size from by
    rcases h with ⟨rfl, _, rfl, _⟩ | ⟨f, wd, rfl, hf⟩
    · exact ⟨fun f e => (nomatch e), fun g e => (nomatch e)⟩
    · exact ⟨fun f' e => by cases e; exact hf.lt, fun g e => hf.row.lt e⟩)
  rw [hk] at HC hk64 HL
  have HK := Lib.hid hk
  clear h hrow hk
  refine (callsIn_wide (n := 3)).1 ?_
  refine callsIn_of_wp_marks Try.func8 rfl trivial ?_ rfl
  simp only [Try.ntmps8, List.size_toArray, List.length_cons, List.length_nil, Nat.reduceAdd, Nat.reduceSub, Array.replicate_succ, Array.replicate_zero, List.push_toArray, List.append_toArray, List.nil_append, List.cons_append]
  gi_wp2_with (first | (refine ⟨trivial, ?_⟩; gi_at_call 14; refine (callsIn_wide.2 (flying_any p _)).mono ?_; rintro e w' ⟨rfl, rfl⟩) | (refine ⟨trivial, ?_⟩; gi_at_call 13; refine (callsIn_wide.2 (HT.out _)).mono ?_; clear HT; rintro e w' ⟨rfl, rfl⟩) | (refine ⟨trivial, ?_⟩; gi_at_call 13; refine (callsIn_wide.2 (HT2.out _)).mono ?_; rintro e w' ⟨rfl, rfl⟩))
  obtain ⟨W0, hW0⟩ : ∃ W0, ((((w.alloc (.cells #[Value.int .i64 now] 3)).alloc (.cells #[Value.int .i64 wait] 3)).alloc (.cells #[Value.slice none 0 0] 34)).alloc (.cells #[Value.pointer p] 25)) = W0 := ⟨_, rfl⟩
  have hz : W0.heap.size = w.heap.size + 4 := by rw [← hW0]; simp
  have hb : Below w.heap.size w W0 := by
    rw [← hW0]
    exact ((((Below.refl _ w).alloc (Nat.le_refl _) _).alloc (by simp) _).alloc (by simp; omega) _).alloc (by simp; omega) _
  have hcC : W0.cell? ⟨w.heap.size + 1 + 1 + 1, 0, none⟩ = some (.pointer p) := by
    rw [← hW0, World.cell?_alloc_at _ _ _ _ (by simp)]; rfl
  have hI0 : DueR p nx r v L k now wait w.heap.size w (L, []) W0 := by
    refine ⟨⟨_, ?_, World.ownsRow_nil _ _ _ _⟩, HF.out.below hb, ?_, ?_, ?_, tn_below _ hb⟩
    · rw [← hW0]
      have h := Boxed.new ((w.alloc (.cells #[Value.int .i64 now] 3)).alloc (.cells #[Value.int .i64 wait] 3)) 34 (.slice none 0 0)
      simp only [World.size_alloc] at h
      exact h.alloc _
    · rw [← hW0]; exact (((Boxed.new w _ _).alloc _).alloc _).alloc _
    · rw [← hW0]
      have h := Boxed.new (w.alloc (.cells #[Value.int .i64 now] 3)) 3 (.int .i64 wait)
      simp only [World.size_alloc] at h
      exact (h.alloc _).alloc _
    · rw [← hW0]
      have h := Boxed.new (((w.alloc (.cells #[Value.int .i64 now] 3)).alloc (.cells #[Value.int .i64 wait] 3)).alloc (.cells #[Value.slice none 0 0] 34)) 25 (.pointer p)
      simp only [World.size_alloc] at h
      exact h
  rw [hW0]
  have HI0 := Lib.hid hI0
  have HST := Lib.hid (fly_stops (3 - 1) (by decide) (w.heap.size + 1 + 1 + 1) p nx v k g o cap W0 hk64.out HR.out (by omega) hcC (HC.out.below hb))
  clear hI0 hW0 hb hcC
  refine wpIn_rangeFunc_ownG (F := Fence.wide) rfl (by decide) (gf := 23) (lb := #[.pointer (some ⟨w.heap.size + 1 + 1 + 1, 0, none⟩)]) rfl trivial (enters_of Try.func23 (by kernel_rfl) rfl)
    HST.out keepsFl_t keepsFl_b (Below.refl _ _) (fun _ => rfl)
    (fun pre W => DueR p nx r v L k now wait w.heap.size w (dueF nx k (now - wait) now L (pre.map Fin.val)) W) (fun _ _ _ => False)
    (fun _ _ _ _ hs hg hr => hs.own hg hr (by omega)) (fun _ _ _ _ _ hs _ _ => hs) HI0.out
    (fun y => { tmps := #[Value.pointer p, Value.int IntKind.i64 now, Value.int IntKind.i64 wait, undef,
          Value.pointer (some ⟨w.heap.size, 0, none⟩), Value.pointer (some ⟨w.heap.size + 1, 0, none⟩), Value.slice none 0 0,
          Value.pointer (some ⟨w.heap.size + 1 + 1, 0, none⟩), Value.int .u32 (fno nx k y.1), Value.pointer (some ⟨g, o + y.1 * 3, none⟩), Value.int IntKind.i64 now,
          Value.bool true, Value.bool false, Value.bool false, Value.int IntKind.i64 wait, Value.bool true,
          Value.bool false, Value.bool false, Value.pointer p,
          Value.func (Fn.func 23) #[] #[Value.pointer (some ⟨w.heap.size + 1 + 1 + 1, 0, none⟩)], Value.int .u32 (fno nx k y.1), Value.pointer (some ⟨g, o + y.1 * 3, none⟩),
          undef, undef, undef, undef, undef, undef, undef, undef, undef, undef, undef, undef, undef, undef, undef, undef, undef], defers := [] }) ?assign ?body ?done ?stop
  case assign =>
    intro l x W K hK
    gi_wp2
    exact hK
  case body =>
    rintro l pre y W hI hlt
    obtain ⟨i0, hi0, hz0, hz1, hz2⟩ := info_parts infoU
    have hlen := HN.out (pre.map Fin.val)
    rw [HK.out] at hlen
    have hS := HL.out (pre.map Fin.val) y.1
    have hpm : (pre ++ [y]).map Fin.val = pre.map Fin.val ++ [y.1] := by rw [List.map_append]; rfl
    have HP : Hid (dueF nx k (now - wait) now L ((pre ++ [y]).map Fin.val) = dueS nx k (now - wait) now (dueF nx k (now - wait) now L (pre.map Fin.val)) y.1) := Lib.hid (by rw [hpm]; exact hS)
    clear hS hpm
    generalize dueF nx k (now - wait) now L (pre.map Fin.val) = s at *
    obtain rfl : v = .slice (some ⟨g, o, none⟩) k cap := HR.out (by omega)
    obtain ⟨f, wd, rfl, hfl⟩ := hI.fl.some_ (by omega)
    have hfl' := hfl
    rw [← hlen.1] at hfl'
    obtain ⟨hrg, hgW, hcells, hfree⟩ := hfl'.lit (i := y.1) (by have := y.2; omega)
    have hg0 : g < w.heap.size := hlow.out.2 g hrg
    have hcx := hcells 2 _ rfl
    have hfx := hfree (o + y.1 * 3 + 2)
    have b0 := hI.b0.cell
    have b1 := hI.b1.cell
    have hr0 : Try.prog.follows .mixedOrders = true := by kernel_rfl
    have HI := Lib.hid hI
    have HFl := Lib.hid hfl'
    have HLen := Lib.hid hlen
    have hl64 : s.2.length ≤ 64 := by have := hlen.2; rw [List.length_map] at this; have := hk64.out; omega
    have hsz := hI.size
    have HLow := Lib.hid hlow.out
    clear hI hfl hfl' hcells hfree hlen HST HI0 HC HF HL HN hlow
    have hw : IntKind.i64.wrap (now - wait) = now - wait := by simp [IntKind.wrap, IntKind.signed, IntKind.bits]; omega
    by_cases hle : (s.1.getD y.1 bl0).at_ ≤ now - wait
    · have HS : Hid (dueS nx k (now - wait) now s y.1 = (s.1.set y.1 { s.1.getD y.1 bl0 with at_ := now }, s.2 ++ [fno nx k y.1])) := Lib.hid (by unfold dueS; rw [if_pos hle])
      have HD := Lib.hid (HI.out.drew)
      have HFd : Hid (Fl W.drew f wd nx r (.slice (some ⟨g, o, none⟩) s.1.length cap) s.1) := Lib.hid (HFl.out.kept (grown_drew W none) (fun _ e => (nomatch e)))
      have hle' : (s.1[y.1]?.getD bl0).at_ ≤ IntKind.i64.wrap (now - wait) := by rw [hw]; exact hle
      clear hw hle
      gi_wp2
      apply wpIn_one (W' := W.drew)
      case h =>
        gi_region_o
        all_goals exact ⟨rfl, rfl⟩
      obtain ⟨X, hX⟩ : ∃ X, W.drew = X := ⟨_, rfl⟩
      have hKX : KeepsOthers W X := by rw [← hX]; exact KeepsOthers.drew W
      rw [hX] at HD HFd ⊢
      clear hcx hfx b0 b1 HI HFl hX hgW hsz
      have hsz := HD.out.size
      obtain ⟨-, -, hcells, hfree⟩ := HFd.out.lit (i := y.1) (by have := y.2; have := HLen.out.1; omega)
      have hcx := hcells 2 _ rfl
      have hfx := hfree (o + y.1 * 3 + 2)
      have b0 := HD.out.b0.cell
      obtain ⟨hd2, hrow2⟩ := HD.out.store HLen.out.1 rfl HFd.out hg0 y.2
      obtain ⟨u, hu, ho⟩ := HD.out.out
      obtain ⟨hu2, ho2⟩ := hrow2 u hu ho
      obtain ⟨A, c, rfl, -, -, -⟩ := uw_of ho
      have hcu := hu.cell
      have hne : g ≠ w.heap.size + 1 + 1 := by omega
      have HD2 := Lib.hid hd2
      have HU2 := Lib.hid hu2
      have HO2 := Lib.hid ho2
      have hmax : s.2.length + 1 ≤ maxLen := by unfold maxLen; omega
      have hnew := cell_one_new (X.setCell ⟨g, o + y.1 * 3 + 2, none⟩ (.int .i64 now)) (Value.int .u32 (fno nx k y.1)) 22
      have hxs : (X.setCell ⟨g, o + y.1 * 3 + 2, none⟩ (.int .i64 now)).heap.size = X.heap.size := by simp [World.setCell]
      rw [hxs] at hnew
      clear hcells hfree hd2 hrow2 hu ho hu2 ho2 HD HFd
      gi_wp2_with (gi_at_builtin; refine wpListIn_append_own _ rfl _ _ 34 rfl w.heap.size 22 i0 (.int .u32 0) 1 4 Try.underlying34 hi0 hz0 hz1 hz2 rfl (by decide) _ _ _ rfl (HO2.out.alloc _) ⟨X.heap.size, 0, none⟩ 1 1 [Value.int .u32 (fno nx k y.1)] rfl rfl hnew (by simp [Value.oneCell']) hmax (by omega) (by simp; omega) ?_; intro v' w1 hown1 hgrow _; obtain ⟨g', cap', rfl⟩ := ownsRow_succ hown1; obtain ⟨hv1, hd1, hk2⟩ := HD2.out.told rfl HLow.out HU2.out HO2.out hown1 hgrow; have hc1 := hv1.cell; have hf1 := hv1.frozen)
      have hE := hd1
      rw [← HS.out, ← HP.out, hrg] at hE
      exact ⟨((hKX.trans (KeepsOthers.setCell _ _ _)).trans hk2).from _, hd1.keeps (by rw [List.length_set]; exact HLen.out.1), hE⟩
    · have HS : Hid (dueS nx k (now - wait) now s y.1 = s) := Lib.hid (by unfold dueS; rw [if_neg hle])
      have hle' : ¬ (s.1[y.1]?.getD bl0).at_ ≤ IntKind.i64.wrap (now - wait) := by rw [hw]; exact hle
      clear hw hle
      have HE : Hid (KeepsFrom W0.heap.size W W.drew ∧ KeepsFl (w.heap.size + 1 + 1 + 1) (some ⟨f, 0, none⟩) nx (.slice (some ⟨g, o, none⟩) k cap) k W W.drew ∧
          DueR (some ⟨f, 0, none⟩) nx r (.slice (some ⟨g, o, none⟩) k cap) L k now wait w.heap.size w (dueF nx k (now - wait) now L ((pre ++ [y]).map Fin.val)) W.drew) :=
        Lib.hid ⟨(KeepsOthers.drew W).from _, HI.out.drew.keeps HLen.out.1, by rw [HP.out, HS.out]; exact HI.out.drew⟩
      gi_wp2
      apply wpIn_one (W' := W.drew)
      case h =>
        gi_region_o
        all_goals exact ⟨rfl, rfl⟩
      gi_wp2
      exact HE.out
  case done =>
    rintro D ys W hD rfl hI hK
    have hI' : DueR p nx r v L k now wait w.heap.size w (dueF nx k (now - wait) now L (List.range k)) W := by rw [← fin_vals k]; exact hI
    clear hI
    obtain ⟨u, hu, ho⟩ := hI'.out
    have hc := hu.cell
    obtain ⟨A, c, rfl, -, -, -⟩ := uw_of ho
    have HW : Hid (Uw (W.putObj D (.deferred none)) A (dueF nx k (now - wait) now L (List.range k)).2.length (dueF nx k (now - wait) now L (List.range k)).2) := by
      obtain ⟨A', c', e, _, _, h⟩ := uw_of (ownsRow_putObj ho (.deferred none) hK rfl)
      injection e with e1 _ _
      rw [e1]; exact Lib.hid h
    have HI := Lib.hid (hI'.own (B := w.heap.size) (grownBy_putObj' W D (.deferred none)) (fun r e => by cases e; exact ⟨by omega, _, hK, rfl⟩) (Nat.le_refl _))
    clear hI' hu ho
    gi_wp2
    refine ⟨by simp, .inl ⟨_, _, rfl, run_takeDeferred hK, ?_⟩⟩
    rw [HK.out]
    exact ⟨_, results_tmp rfl _ _ _, A, c, rfl, HW.out, HI.out.fl, HI.out.tn⟩
  case stop =>
    rintro D c pre W _ _ h _
    exact h.elim
theorem due_any (p : Option Addr) (nx : Int) (r : Option Nat) (v : Value) (L : List Bl) (now wait : Int) (w : World) (h : FlO w p nx r v L) :
    Calls Try.prog 8 #[.pointer p, .int .i64 now, .int .i64 wait] w fun e w' => ∃ A c, e = .returned (.slice A (dueL nx now wait L).2.length c) ∧ Uw w' A (dueL nx now wait L).2.length (dueL nx now wait L).2 ∧ FlO w' p nx r v (dueL nx now wait L).1 ∧ Tn (fun i => r = some i) w w' := by
  cases hok : dueOk now wait with
  | true => exact due_good p nx r v L now wait w h hok
  | false =>
    have hB : Below w.heap.size w ((w.alloc (.cells #[Value.int .i64 now] 3)).alloc (.cells #[Value.int .i64 wait] 3)) := ((Below.refl _ w).alloc (Nat.le_refl _) _).alloc (by simp) _
    have HE : Hid (∃ A c, (Value.slice none 0 0 : Value) = .slice A (dueL nx now wait L).2.length c ∧ Uw ((w.alloc (.cells #[Value.int .i64 now] 3)).alloc (.cells #[Value.int .i64 wait] 3)) A (dueL nx now wait L).2.length (dueL nx now wait L).2 ∧ FlO ((w.alloc (.cells #[Value.int .i64 now] 3)).alloc (.cells #[Value.int .i64 wait] 3)) p nx r v (dueL nx now wait L).1 ∧ Tn (fun i => r = some i) w ((w.alloc (.cells #[Value.int .i64 now] 3)).alloc (.cells #[Value.int .i64 wait] 3))) := by
      have e : dueL nx now wait L = (L, []) := by unfold dueL; rw [if_neg (by rw [hok]; decide)]
      rw [e]
      exact Lib.hid ⟨none, 0, rfl, Uw.nil _ _, h.below hB, tn_below _ hB⟩
    clear hB h
    have HT := Lib.hid (fun w => timed_any now w)
    have HT2 := Lib.hid (fun w => timed_any wait w)
    unfold dueOk at hok
    cases h1 : timeB now with
    | false =>
      rw [h1] at HT
      clear h1 hok HT2
      go_enter Try.func8, Try.ntmps8
      go_wp2_with fail
      refine (HT.out _).mono ?_; rintro e w1 ⟨rfl, rfl⟩
      go_wp2_with fail
      go_ret
      obtain ⟨A, c, e1, e2⟩ := HE.out
      exact ⟨A, c, by rw [← e1]; rfl, e2⟩
    | true =>
      rw [h1] at HT
      rw [h1, Bool.true_and] at hok
      rw [hok] at HT2
      clear h1 hok
      go_enter Try.func8, Try.ntmps8
      go_wp2_with fail
      refine (HT.out _).mono ?_; rintro e w1 ⟨rfl, rfl⟩
      go_wp2_with fail
      refine (HT2.out _).mono ?_; rintro e w1 ⟨rfl, rfl⟩
      go_wp2_with fail
      go_ret
      obtain ⟨A, c, e1, e2⟩ := HE.out
      exact ⟨A, c, by rw [← e1]; rfl, e2⟩
end Go.Proofs.Ytgnalabblhokmaa

/- Proved: lemmas of one statement's proof, merged by program: what each part proves stands ahead of it. Conditions: those that the lemmas name. -/
import Derived.Test.YtmnbkghihdbepaaM22

/- Proved: what slices.IndexFunc answers and leaves, where the function that it calls deletes from the map what it finds. Conditions: those that the theorems name. -/
namespace Go.Proofs.Ytmnbkghihdbepaa
open Go.ChangeShapes Go.WideShapes Go.ChangeAt Go.RowKit

/-- what stands while what is unwanted goes: the function and what it captured, the row's pointers, where they point. -/
structure Rm (F : Nat) (caps : Array Value) (u : Dg → Bool) (bf bc b m : Nat) (rv : Value) (X : List Pd) (W : World) : Prop where
  tells : Tells F caps u W
  f : At W bf 59 [.func (.func F) #[] caps]
  c : At W bc 24 [ptv b]
  b : At W b 50 [rv, .map (some m)]
  pts : ∀ x ∈ X, At W x.1 29 x.2.cells
  ok : ∀ x ∈ X, DOk x.2
  ks : (subjs X).Nodup
section
variable {F : Nat} {caps : Array Value} {u : Dg → Bool} {bf bc b m : Nat} {rv : Value} {X : List Pd}
/-- one is asked about, and is to stay. -/
theorem rm_no {W : World} (h : Rm F caps u bf bc b m rv X W) {x : Pd} (hx : x ∈ X) (hu : u x.2 = false) :
    Calls Try.prog 31 #[ptv x.1, ptv bf, ptv bc] W fun e w' => e = .returned (.bool false) ∧ Tn Nil W w' :=
  rem1_no h.tells h.f (h.pts x hx) (h.ok x hx) hu
/-- one is asked about, and is to go: it is no longer in the map. -/
theorem rm_yes {W : World} (h : Rm F caps u bf bc b m rv X W) {A B : List Pd} {x : Pd} (hx : x ∈ X) (hu : u x.2 = true) (hd : (subjs (A ++ x :: B)).Nodup) (hm : Mq W m (ptOf (A ++ x :: B)) (A ++ x :: B).length) :
    Calls Try.prog 31 #[ptv x.1, ptv bf, ptv bc] W fun e w' => e = .returned (.bool true) ∧ Mq w' m (ptOf (A ++ B)) (A ++ B).length ∧ Tn (fun i => i = m) W w' := by
  have e : (A ++ x :: B).length = (A ++ B).length + 1 := by simp; omega
  rw [e] at hm
  refine (rem1_yes h.tells h.f h.c h.b (h.pts x hx) (h.ok x hx) hu hm (by rw [ptOf_mid hd]; rfl)).mono ?_
  rintro e w' ⟨rfl, h1, h2⟩
  exact ⟨rfl, h1.congr fun k _ => ptOf_del hd k, h2⟩
set_option maxRecDepth 100000 in
set_option maxHeartbeats 1600000 in
theorem idx_any {w : World} {v : Value} {r : Option Nat} (hX : X.length ≤ 60000) (hR : ∀ V, Tn (fun i => i = m) w V → Rm F caps u bf bc b m rv X V ∧ Qu V r 56 1 v X.length (ptrs X)) (hm : Mq w m (ptOf X) X.length) :
    Calls Try.prog 35 #[v, .func (.func 31) #[] #[ptv bf, ptv bc]] w fun e w' => Tn (fun i => i = m) w w' ∧
      ((e = .returned (.int .i64 (-1)) ∧ (∀ x ∈ X, u x.2 = false) ∧ Mq w' m (ptOf X) X.length) ∨
      (∃ A x B, X = A ++ x :: B ∧ (∀ y ∈ A, u y.2 = false) ∧ u x.2 = true ∧ e = .returned (.int .i64 (A.length : Nat)) ∧ Mq w' m (ptOf (A ++ B)) (A ++ B).length)) := by
  obtain ⟨A0, cap, rfl⟩ := (hR w (Tn.refl _ _)).2.form
  have HR := Lib.hid hR
  have HM := Lib.hid hm
  have HN : Hid (∀ x ∈ X, x ∈ X) := Lib.hid fun _ h => h
  clear hR hm
  generalize hn : X.length = n at *
  have HNL := Lib.hid hn
  clear hn
  have hX' : (n : Int) ≤ 60000 := by omega
  clear hX
  go_enter Try.func35, Try.ntmps35
  go_wp2_with fail
  go_loopw [8] (fun i wr => ∃ k : Nat, k ≤ n ∧ i = .int .i64 k ∧ (∀ x ∈ X.take k, u x.2 = false) ∧ Mq wr m (ptOf X) n ∧ Tn (fun i => i = m) w wr) (fun i _ => n - (intOf i).toNat)
  case atStart => exact ⟨0, Nat.zero_le _, rfl, fun x hx => by simp at hx, HM.out, Tn.refl _ _⟩
  case round =>
    obtain ⟨k, hk, rfl, hno, hmq, htn⟩ := hrel
    have HNO := Lib.hid hno
    have HMQ := Lib.hid hmq
    have HT := Lib.hid htn
    obtain ⟨hrm, hqu⟩ := HR.out _ htn
    have HRM := Lib.hid hrm
    clear hno hmq htn hrm
    have hk0 : (0 : Int) ≤ (k : Int) := Int.natCast_nonneg _
    by_cases hlt : k < n
    · obtain ⟨x, hx⟩ : ∃ x, X[k]? = some x := ⟨_, List.getElem?_eq_getElem (by rw [HNL.out]; exact hlt)⟩
      have hxm : x ∈ X := List.mem_of_getElem? hx
      obtain ⟨g, o, cap', hrg, hv, _, hle, hcs, _⟩ := hqu.head (by omega)
      injection hv with hv _ hcc
      subst hv; subst hcc
      have hcell := hcs k _ (ptrs_at hx)
      have hlt' : (k : Int) < (n : Int) := by omega
      have HXM := Lib.hid hxm
      have HXX := Lib.hid hx
      clear hqu hcs hx hxm hrg
      cases hu : u x.2 with
      | false =>
        have HC := Lib.hid (rm_no HRM.out HXM.out hu)
        have HU := Lib.hid hu
        clear hu
        go_wp2_with fail
        refine HC.out.mono ?_; rintro e w2 ⟨rfl, g2⟩
        have G2 := Lib.hid g2
        clear g2
        go_wp2_with fail
        go_roundw
        case rel =>
          refine ⟨k + 1, by omega, by go_num, fun y hy => ?_, HMQ.out.tn G2.out (fun e => e), HT.out.trans (G2.out.mono (fun _ _ e => e.elim))⟩
          rw [List.take_add_one, HXX.out] at hy
          rcases List.mem_append.1 hy with hy | hy
          · exact HNO.out y hy
          · have : y = x := by simpa using hy
            rw [this]; exact HU.out
        case measure => simp [intOf]; omega
      | true =>
        have hsp : X = X.take k ++ x :: X.drop (k + 1) := by
          have hlX : k < X.length := by rw [HNL.out]; exact hlt
          have hgx : X[k] = x := by have := HXX.out; rw [List.getElem?_eq_getElem hlX] at this; injection this
          rw [← hgx, ← List.drop_eq_getElem_cons hlX, List.take_append_drop]
        have hm2 : Mq wr m (ptOf (X.take k ++ x :: X.drop (k + 1))) (X.take k ++ x :: X.drop (k + 1)).length := by rw [← hsp, HNL.out]; exact HMQ.out
        have HC := Lib.hid (rm_yes HRM.out HXM.out hu (by rw [← hsp]; exact HRM.out.ks) hm2)
        have HU := Lib.hid hu
        have HSP := Lib.hid hsp
        clear hu hsp hm2
        go_wp2_with fail
        refine HC.out.mono ?_; rintro e w2 ⟨rfl, m2, g2⟩
        have G2 := Lib.hid g2
        have M2 := Lib.hid m2
        clear g2 m2
        go_wp2_with fail
        go_ret
        refine ⟨HT.out.trans G2.out, .inr ⟨X.take k, x, X.drop (k + 1), HSP.out, HNO.out, HU.out, ?_, M2.out⟩⟩
        rw [List.length_take, HNL.out, Nat.min_eq_left (by omega)]; rfl
    · obtain rfl : k = n := by omega
      clear hqu
      go_wp2_with fail
      go_ret
      refine ⟨HT.out, .inl ⟨rfl, fun x hx => HNO.out x ?_, HMQ.out⟩⟩
      rw [← HNL.out, List.take_length]; exact hx
end
end Go.Proofs.Ytmnbkghihdbepaa

/- Proved: what slices.DeleteFunc answers and leaves of a row of pointers, where the function that it calls deletes from the map what is to go. Conditions: those that the theorems name. -/
namespace Go.Proofs.Ytmnbkghihdbepaa
open Go.ChangeShapes Go.WideShapes Go.ChangeAt Go.RowKit

theorem keep_all {u : Dg → Bool} {X : List Pd} (h : ∀ x ∈ X, u x.2 = false) : keepX u X = X := List.filter_eq_self.2 fun x hx => by simp [h x hx]
theorem keep_app (u : Dg → Bool) (A B : List Pd) : keepX u (A ++ B) = keepX u A ++ keepX u B := List.filter_append ..
theorem keep_no {u : Dg → Bool} {x : Pd} (h : u x.2 = false) : keepX u [x] = [x] := by simp [keepX, h]
theorem keep_yes {u : Dg → Bool} {x : Pd} (h : u x.2 = true) : keepX u [x] = [] := by simp [keepX, h]
theorem keep_sub (u : Dg → Bool) (X : List Pd) (j : Nat) : (keepX u (X.take j) ++ X.drop j).Sublist X := by
  have h : (keepX u (X.take j) ++ X.drop j).Sublist (X.take j ++ X.drop j) := (List.filter_sublist).append (List.Sublist.refl _)
  rwa [List.take_append_drop] at h
theorem keep_nodup {u : Dg → Bool} {X : List Pd} (h : (subjs X).Nodup) (j : Nat) : (subjs (keepX u (X.take j) ++ X.drop j)).Nodup := h.sublist ((keep_sub u X j).map _)
theorem keep_short {u : Dg → Bool} {A B : List Pd} {x : Pd} (h : u x.2 = true) {j : Nat} (hj : A.length + 1 ≤ j) (hn : j ≤ (A ++ x :: B).length) : (keepX u ((A ++ x :: B).take j)).length < j := by
  obtain ⟨d, rfl⟩ : ∃ d, j = A.length + (d + 1) := ⟨j - A.length - 1, by omega⟩
  rw [List.take_length_add_append, List.take_succ_cons, keep_app, show keepX u (x :: B.take d) = keepX u ([x] ++ B.take d) from rfl, keep_app, keep_yes h, List.nil_append, List.length_append]
  have h1 : (keepX u A).length ≤ A.length := List.length_filter_le _ _
  have h2 : (keepX u (B.take d)).length ≤ (B.take d).length := List.length_filter_le _ _
  rw [List.length_take] at h2
  omega
theorem zeros_pt_one : ∀ n, ∀ u ∈ (Builtin.zeroCells (Value.pointer none).cells n).toList, u.oneCell' = true := by
  intro n u hu
  simp [Builtin.zeroCells, Value.cells] at hu
  obtain ⟨i, _, rfl⟩ := hu
  rw [Nat.mod_one]; rfl
theorem drop_at {X : List Pd} {k : Nat} {x : Pd} (h : X[k]? = some x) : X.drop k = x :: X.drop (k + 1) := by
  have hl := (List.getElem?_eq_some_iff.1 h).1
  rw [List.drop_eq_getElem_cons hl, (List.getElem?_eq_some_iff.1 h).2]
section
variable {F : Nat} {caps : Array Value} {u : Dg → Bool} {bf bc b m : Nat} {rv : Value} {X : List Pd}
set_option maxRecDepth 100000 in
set_option maxHeartbeats 1600000 in
theorem del_any {w : World} {v : Value} {r : Option Nat} (hX : X.length ≤ 60000) (hR : ∀ V, Tn (fun i => i = m ∨ r = some i) w V → Rm F caps u bf bc b m rv X V) (hq : Qu w r 56 1 v X.length (ptrs X)) (hm : Mq w m (ptOf X) X.length) :
    Calls Try.prog 30 #[v, .func (.func 31) #[] #[ptv bf, ptv bc]] w fun e w' => ∃ v', e = .returned v' ∧ Qu w' r 56 1 v' (keepX u X).length (ptrs (keepX u X)) ∧ Mq w' m (ptOf (keepX u X)) (keepX u X).length ∧ Tn (fun i => i = m ∨ r = some i) w w' := by
  have hrm : r ≠ some m := hq.no_map hm
  have HI := Lib.hid (idx_any (v := v) (r := r) hX (fun V t => ⟨hR V (t.mono fun _ _ e => .inl e), hq.tn t (fun g hg e => hrm (by rw [hg, e]))⟩) hm)
  obtain ⟨A0, cap, rfl⟩ := hq.form
  have HR := Lib.hid hR
  have HQ0 : Hid (∀ V, Tn (fun i => i = m) w V → Qu V r 56 1 (.slice A0 X.length cap) X.length (ptrs X)) := Lib.hid fun V t => hq.tn t (fun g hg e => hrm (by rw [hg, e]))
  have HRM := Lib.hid hrm
  clear hR hm hq hrm
  generalize hn : X.length = n at *
  have HNL := Lib.hid hn
  clear hn
  have hX' : (n : Int) ≤ 60000 := by omega
  clear hX
  go_enter Try.func30, Try.ntmps30
  go_wp2_with fail
  refine HI.out.mono ?_; rintro e w1 ⟨t1, hh⟩
  have T1 := Lib.hid t1
  clear t1
  rcases hh with ⟨rfl, hno, hm1⟩ | ⟨A, x, B, hsp, hno, hux, rfl, hm1⟩
  · have HNO := Lib.hid (keep_all hno)
    have HM1 := Lib.hid hm1
    clear hno hm1
    go_wp2_with fail
    go_ret
    rw [HNO.out, HNL.out]
    exact ⟨_, rfl, HQ0.out _ T1.out, HM1.out, T1.out.mono fun _ _ e => .inl e⟩
  · have HSP := Lib.hid hsp
    have HUX := Lib.hid hux
    have hq1 := HQ0.out _ T1.out
    have hA : A.length < n := by rw [← HNL.out, hsp, List.length_append, List.length_cons]; omega
    obtain ⟨g, o, cap', hrg, hv, _, hle, _, _⟩ := hq1.head (by omega)
    injection hv with hv _ hcc
    subst hv; subst hcc
    have HQ1 := Lib.hid hq1
    have HRG := Lib.hid hrg
    have HLE := Lib.hid hle
    have hta : keepX u (X.take (A.length + 1)) = A := by
      rw [hsp, List.take_length_add_append, List.take_succ_cons, List.take_zero, keep_app, keep_all hno, keep_yes hux, List.append_nil]
    have hda : X.drop (A.length + 1) = B := by
      rw [hsp, List.drop_length_add_append, List.drop_succ_cons, List.drop_zero]
    have hpa : ptrs X = ptrs A ++ ptrs (x :: B) := by rw [hsp]; unfold ptrs; rw [List.map_append]
    have HST : Hid (∃ xs, Qu w1 r 56 1 (.slice (some ⟨g, o, none⟩) n cap) n xs ∧ xs.take A.length = ptrs (keepX u (X.take (A.length + 1))) ∧ xs.drop (A.length + 1) = ptrs (X.drop (A.length + 1)) ∧ Mq w1 m (ptOf (keepX u (X.take (A.length + 1)) ++ X.drop (A.length + 1))) (keepX u (X.take (A.length + 1)) ++ X.drop (A.length + 1)).length) := Lib.hid (by
      refine ⟨_, HQ1.out, ?_, ?_, ?_⟩
      · rw [hta, hpa, ← ptrs_len A, List.take_left]
      · rw [hda]
        unfold ptrs
        rw [← List.map_drop, hda]
      · rw [hta, hda]; exact hm1)
    have HLT : Hid ((keepX u (X.take (A.length + 1))).length = A.length) := Lib.hid (by rw [hta])
    have ha0 : (0 : Int) ≤ (A.length : Int) := Int.natCast_nonneg _
    have ha1 : (A.length : Int) < (n : Int) := by omega
    have HSH : Hid (∀ j, A.length + 1 ≤ j → j ≤ n → (keepX u (X.take j)).length < j) := Lib.hid fun j h1 h2 => by
      rw [hsp]
      exact keep_short hux h1 (by rw [← hsp, HNL.out]; exact h2)
    have HAL := Lib.hid hA
    have hng : ((A.length : Int) == -1) = false := beq_eq_false_iff_ne.2 (by omega)
    clear hm1 hq1 hrg hle hno hux hsp hta hda hpa hA HI HQ0
    generalize A.length = a at *
    go_wp2_with fail
    go_loopw [5, 6] (fun i j wr => ∃ (k : Nat) (c : Nat) (xs : List Value), a + 1 ≤ k ∧ k ≤ n ∧ j = .int .i64 k ∧ i = .int .i64 c ∧ c = (keepX u (X.take k)).length ∧ Qu wr r 56 1 (.slice (some ⟨g, o, none⟩) n cap) n xs ∧ xs.take c = ptrs (keepX u (X.take k)) ∧ xs.drop k = ptrs (X.drop k) ∧ Mq wr m (ptOf (keepX u (X.take k) ++ X.drop k)) (keepX u (X.take k) ++ X.drop k).length ∧ Tn (fun i => i = m ∨ r = some i) w wr) (fun _ j _ => n - (intOf j).toNat)
    case atStart =>
      obtain ⟨xs, h1, h2, h3, h4⟩ := HST.out
      exact ⟨a + 1, a, xs, Nat.le_refl _, by have := HAL.out; omega, by go_num, rfl, HLT.out.symm, h1, h2, h3, h4, T1.out.mono fun _ _ e => .inl e⟩
    case round =>
      obtain ⟨k, c, xs, hk1, hk2, rfl, rfl, hc, hq, htk, hdk, hmk, htn⟩ := hrel
      have HC := Lib.hid hc
      have HQ := Lib.hid hq
      have HTK := Lib.hid htk
      have HDK := Lib.hid hdk
      have HMK := Lib.hid hmk
      have HT := Lib.hid htn
      have hck : c < k := by rw [hc]; exact HSH.out k hk1 hk2
      have HRm := Lib.hid (HR.out _ htn)
      obtain ⟨g', o', cap', _, hv, _, hle, hcs, hfr⟩ := hq.head (by omega)
      injection hv with hv _ hcc
      injection hv with hv
      injection hv with hv1 hv2
      subst hv1; subst hv2; subst hcc
      have hxl : xs.length = n := by have := hq.len; omega
      clear hc htk hmk htn hdk
      have hk0 : (0 : Int) ≤ (k : Int) := Int.natCast_nonneg _
      have hc0 : (0 : Int) ≤ (c : Int) := Int.natCast_nonneg _
      have hck' : (c : Int) < (k : Int) := by omega
      by_cases hlt : k < n
      · obtain ⟨y, hy⟩ : ∃ y, X[k]? = some y := ⟨_, List.getElem?_eq_getElem (by rw [HNL.out]; exact hlt)⟩
        have HYM := Lib.hid (List.mem_of_getElem? hy)
        have hdy := drop_at hy
        have hxk : xs[k]? = some (ptv y.1) := by
          have h : (xs.drop k)[0]? = some (ptv y.1) := by rw [HDK.out, hdy]; rfl
          rw [List.getElem?_drop] at h
          exact h
        have HTY : Hid (X.take (k + 1) = X.take k ++ [y]) := Lib.hid (by rw [List.take_add_one, hy]; rfl)
        have HDY := Lib.hid hdy
        have HXL := Lib.hid hxl
        have hcell := hcs k _ hxk
        obtain ⟨z, hz⟩ : ∃ z, xs[c]? = some z := ⟨_, List.getElem?_eq_getElem (by rw [hxl]; omega)⟩
        have hcz := hcs c _ hz
        have hfz := hfr (o + c)
        have HZ := Lib.hid hz
        have hlt' : (k : Int) < (n : Int) := by omega
        have hcn : (c : Int) < (n : Int) := by omega
        clear hq hcs hy hdy hxk hxl hz hfr
        cases hu : u y.2 with
        | false =>
          have HCL := Lib.hid (rm_no HRm.out HYM.out hu)
          have HU := Lib.hid hu
          clear hu
          go_wp2_with fail
          refine HCL.out.mono ?_; rintro e w2 ⟨rfl, g2⟩
          have G2 := Lib.hid g2
          have HQ2 := Lib.hid (HQ.out.tn g2 (fun _ _ e => e))
          obtain ⟨g', o', cap', _, hv, _, _, hcs2, hfr2⟩ := HQ2.out.head (by omega)
          injection hv with hv _ hcc
          injection hv with hv
          injection hv with hv1 hv2
          subst hv1; subst hv2; subst hcc
          have hcz2 := hcs2 c _ HZ.out
          have hfz2 := hfr2 (o + c)
          clear g2 hcz hfz hcell hcs2 hfr2
          go_wp2_with fail
          have t3 : Tn (fun i => r = some i) w2 (w2.setCell ⟨g, o + c, none⟩ (ptv y.1)) := (Tn.refl _ w2).set _ _ (fun _ => HRG.out)
          have hkk : keepX u (X.take (k + 1)) = keepX u (X.take k) ++ [y] := by rw [HTY.out, keep_app, keep_no HU.out]
          have hll : keepX u (X.take (k + 1)) ++ X.drop (k + 1) = keepX u (X.take k) ++ X.drop k := by rw [hkk, HDY.out, List.append_assoc]; rfl
          go_roundw
          case rel =>
            refine ⟨k + 1, c + 1, xs.set c (ptv y.1), by omega, by omega, by go_num, by go_num, by rw [hkk, List.length_append, ← HC.out]; rfl, HQ2.out.set_ (j := c) (by omega) _, ?_, ?_, ?_, ?_⟩
            · rw [hkk]
              unfold ptrs
              rw [List.map_append]
              rw [List.take_add_one, List.getElem?_set_self (by rw [HXL.out]; omega), List.take_set_of_le (Nat.le_refl c), HTK.out]; rfl
            · rw [List.drop_set_of_lt (by omega), ← List.drop_drop, HDK.out]
              unfold ptrs
              rw [HDY.out, List.map_cons, List.drop_succ_cons, List.drop_zero]
            · rw [hll]
              exact (HMK.out.tn G2.out (fun e => e)).tn t3 (fun e => HRM.out e)
            · exact (HT.out.trans (G2.out.mono (fun _ _ e => e.elim))).trans (t3.mono (fun _ _ e => .inr e))
          case measure => simp [intOf]; omega
        | true =>
          have HCL := Lib.hid (rm_yes (A := keepX u (X.take k)) (B := X.drop (k + 1)) HRm.out HYM.out hu (by rw [← HDY.out]; exact keep_nodup HRm.out.ks k) (by rw [← HDY.out]; exact HMK.out))
          have HU := Lib.hid hu
          clear hu
          go_wp2_with fail
          refine HCL.out.mono ?_; rintro e w2 ⟨rfl, m2, g2⟩
          have G2 := Lib.hid g2
          have M2 := Lib.hid m2
          clear g2 m2
          go_wp2_with fail
          have hkk : keepX u (X.take (k + 1)) = keepX u (X.take k) := by rw [HTY.out, keep_app, keep_yes HU.out, List.append_nil]
          go_roundw
          case rel =>
            refine ⟨k + 1, c, xs, by omega, by omega, by go_num, rfl, by rw [hkk]; exact HC.out, HQ.out.tn G2.out (fun g' hg e => HRM.out (by rw [hg, e])), by rw [hkk]; exact HTK.out, ?_, by rw [hkk]; exact M2.out, HT.out.trans (G2.out.mono (fun _ _ e => .inl e))⟩
            rw [← List.drop_drop, HDK.out]
            unfold ptrs
            rw [HDY.out, List.map_cons, List.drop_succ_cons, List.drop_zero]
          case measure => simp [intOf]; omega
      · obtain rfl : k = n := by omega
        have hte : X.take k = X := by rw [← HNL.out, List.take_length]
        have hde : X.drop k = [] := by rw [← HNL.out, List.drop_length]
        obtain ⟨hnc, W2, hclr, hq2, ht2⟩ := Qu.cutTail (t := 48) (k := 1) Try.underlying48 (z := .pointer none) rfl pt_zero zeros_pt_one HQ.out hck
        obtain ⟨A', hsl, _, hA'⟩ := rest_part (t := 48) Try.underlying48 infoPt (by decide) g o k cap c (by omega)
        have hA2 := hA' (by omega)
        subst hA2
        simp only [Nat.mul_one] at hclr hsl hq2
        have hhd := head_part (t := 48) Try.underlying48 infoPt (some ⟨g, o, none⟩) k cap c (by omega)
        have hcap0 : (k : Int) ≤ (cap : Int) := by omega
        have hMK : Mq wr m (ptOf (keepX u X)) (keepX u X).length := by have h := HMK.out; rw [hte, hde, List.append_nil] at h; exact h
        have hTK : xs.take c = ptrs (keepX u X) := by have h := HTK.out; rw [hte] at h; exact h
        have hCC : c = (keepX u X).length := by have h := HC.out; rw [hte] at h; exact h
        have HF : Hid (∃ v', (.slice (some ⟨g, o, none⟩) c cap : Value) = v' ∧ Qu W2 r 56 1 v' (keepX u X).length (ptrs (keepX u X)) ∧ Mq W2 m (ptOf (keepX u X)) (keepX u X).length ∧ Tn (fun i => i = m ∨ r = some i) w W2) := Lib.hid ⟨_, rfl, by rw [← hCC, ← hTK]; exact hq2, hMK.tn ht2 (fun e => HRM.out e), HT.out.trans (ht2.mono (fun _ _ e => .inr e))⟩
        clear hq2 ht2 hA' hnc hte hde hMK hTK hCC hq hcs hfr hle hk1 hk2 hxl
        go_wp2_with fail
        go_ret
        obtain ⟨v', rfl, h1, h2, h3⟩ := HF.out
        exact ⟨_, rfl, by rw [HRG.out] at h1; exact h1, h2, by simp only [HRG.out, Option.some.injEq] at h3; exact h3⟩
end
end Go.Proofs.Ytmnbkghihdbepaa

/- Proved: lemmas of one statement's proof, merged by program: what each part proves stands ahead of it. Conditions: those that the lemmas name. -/
import Derived.Test.YtgclgmfmcgacdaaM7
import Derived.Test.YtgclgmfmcgacdaaM12
import Derived.Test.YtgclgmfmcgacdaaM8
import Derived.Test.YtgclgmfmcgacdaaM15
import Derived.Deep.RegionHeld3
import Derived.Deep.RegionWith

/- Proved: what newEntry, add and shards of package table leave. Conditions: those that the theorems name. -/
namespace Go.Proofs.Ytgclgmfmcgacdaa
open Go.ChangeShapes Go.WideShapes Go.ChangeAt Go.RowKit

theorem is_z1 (V : World) (x : Int) : Is (V.alloc (.cells #[.int .i64 x] 3)).drew (some ⟨V.heap.size, 0, none⟩) 1 [x] := (is_zone V x).below ((Below.refl _ _).drew)
theorem is_z2 (V : World) (x : Int) (o : Obj) : Is ((V.alloc (.cells #[.int .i64 x] 3)).alloc o).drew (some ⟨V.heap.size, 0, none⟩) 1 [x] := (is_zone V x).below (((Below.refl _ _).alloc (Nat.le_refl _) o).drew)
theorem size_alloc (w : World) (o : Obj) : (w.alloc o).heap.size = w.heap.size + 1 := by
  show (w.heap.push _).size = _
  rw [Array.size_push]
theorem is_z3 (V : World) (x : Int) (o : Obj) : Is ((V.alloc o).alloc (.cells #[.int .i64 x] 3)).drew (some ⟨V.heap.size + 1, 0, none⟩) 1 [x] := by
  have := is_z1 (V.alloc o) x
  rwa [size_alloc] at this
theorem sr_at {W : World} {g : Nat} {t : ByteArray} (h : At W g 9 [.string t]) : Sr W (fun i => i = g) (.slice (some ⟨g, 0, none⟩) 1 1) [t] :=
  sr_of_cells (l := [t]) h rfl (Nat.le_refl _) (by unfold maxLen; omega) (fun j hj => by
    obtain rfl : j = 0 := by simpa using hj
    exact h.cell 0 rfl)
/-- how much memory there is (by a name that no generalizing meets). -/
def szE (w : World) : Nat := w.heap.size
set_option maxRecDepth 100000 in
set_option maxHeartbeats 1600000 in
theorem tb_new_entry (k : Ky) (need : Nat) (x : Int) (t : ByteArray) (w : World) :
    Calls Try.prog 29 #[kyV k, .int .i64 need, .agg #[.int .i64 x, .string t]] w fun e w' => ∃ p g v, e = .returned (ptv p) ∧ p ≠ g ∧ w.heap.size ≤ p ∧ w.heap.size ≤ g ∧ g < w'.heap.size ∧ Nd w' p k need (ofS [x]) v none none ∧ Sr w' (fun i => i = g) v [t] ∧ Tn Nil w w' := by
  have T1 : Tn Nil w (w.alloc (.cells #[.int .i64 k.1, .int .u32 k.2] 35)) := (Tn.refl _ w).alloc _
  have HK := Lib.hid ((At.new w 35 [.int .i64 k.1, .int .u32 k.2]).alloc (.cells #[.int .i64 x, .string t] 32))
  have hx := At.new (w.alloc (.cells #[.int .i64 k.1, .int .u32 k.2] 35)) 32 [.int .i64 x, .string t]
  have T2 := Lib.hid (T1.alloc (.cells #[.int .i64 x, .string t] 32))
  rw [size_alloc] at hx
  have HX := Lib.hid hx
  have k0 := HK.out.cell 0 rfl
  have k1 := HK.out.cell 1 rfl
  have x0 := HX.out.cell 0 rfl
  have x1 := HX.out.cell 1 rfl
  clear T1 hx
  go_enter Try.func29, Try.ntmps29
  go_wp2_with fail
  generalize ((w.alloc (.cells #[.int .i64 k.1, .int .u32 k.2] 35)).alloc (.cells #[.int .i64 x, .string t] 32)) = w2 at *
  have HSZ : Hid (szE w ≤ w2.heap.size) := Lib.hid T2.out.size
  have hb1 := HK.out.lt
  have hb2 := HX.out.lt
  generalize w.heap.size + 1 = b2 at *
  generalize w.heap.size = b1 at *
  have HC1 := Lib.hid (of_any _ 1 1 [x] _ (is_z1 w2 x) (by omega))
  have HC2 := Lib.hid (of_any _ 1 1 [x] _ (is_z2 w2 x (.cells #[.string t] 9)) (by omega))
  have HC3 := Lib.hid (of_any _ 1 1 [x] _ (is_z3 w2 x (.cells #[.string t] 9)) (by omega))
  have HT1 : Hid (Tn Nil w2 (w2.alloc (.cells #[.int .i64 x] 3)).drew) := Lib.hid ((Tn.refl Nil w2).alloc _).drew
  have HT2 : Hid (Tn Nil w2 ((w2.alloc (.cells #[.int .i64 x] 3)).alloc (.cells #[.string t] 9)).drew) := Lib.hid (((Tn.refl Nil w2).alloc _).alloc _).drew
  have HT3 : Hid (Tn Nil w2 ((w2.alloc (.cells #[.string t] 9)).alloc (.cells #[.int .i64 x] 3)).drew) := Lib.hid (((Tn.refl Nil w2).alloc _).alloc _).drew
  have HT4 : Hid (Tn Nil w2 (w2.alloc (.cells #[.string t] 9)).drew) := Lib.hid ((Tn.refl Nil w2).alloc _).drew
  have HF : Hid (∀ w3, Tn Nil w2 w3 → w3.cell? ⟨b1, 0, none⟩ = some (.int .i64 k.1) ∧ w3.cell? ⟨b1, 1, none⟩ = some (.int .u32 k.2) ∧ w3.cell? ⟨b2, 0, none⟩ = some (.int .i64 x) ∧ w3.cell? ⟨b2, 1, none⟩ = some (.string t)) := Lib.hid fun w3 T =>
    ⟨(HK.out.tn T (fun e => e)).cell 0 rfl, (HK.out.tn T (fun e => e)).cell 1 rfl, (HX.out.tn T (fun e => e)).cell 0 rfl, (HX.out.tn T (fun e => e)).cell 1 rfl⟩
  have HS2 : Hid (At ((w2.alloc (.cells #[.int .i64 x] 3)).alloc (.cells #[.string t] 9)).drew (w2.heap.size + 1) 9 [.string t]) := Lib.hid (by
    have := At.new (w2.alloc (.cells #[.int .i64 x] 3)) 9 [.string t]
    rw [size_alloc] at this
    exact this.tn (Tn.refl Nil _).drew (fun e => e))
  have HS3 : Hid (At ((w2.alloc (.cells #[.string t] 9)).alloc (.cells #[.int .i64 x] 3)).drew w2.heap.size 9 [.string t]) := Lib.hid (((At.new w2 9 [.string t]).alloc _).tn (Tn.refl Nil _).drew (fun e => e))
  have HT00 : Hid (Tn Nil w2 w2) := Lib.hid (Tn.refl Nil w2)
  have HT0 : Hid (Tn Nil w2 w2.drew) := Lib.hid (Tn.refl Nil w2).drew
  clear HK HX
  go_region_held3 (fun w' => w'.cell? ⟨b1, 0, none⟩ = some (.int .i64 k.1) ∧ w'.cell? ⟨b1, 1, none⟩ = some (.int .u32 k.2) ∧ w'.cell? ⟨b2, 0, none⟩ = some (.int .i64 x) ∧ w'.cell? ⟨b2, 1, none⟩ = some (.string t))
    (first | with_reducible exact HF.out _ HT00.out | with_reducible exact HF.out _ HT0.out | with_reducible exact HF.out _ HT1.out | with_reducible exact HF.out _ HT2.out | with_reducible exact HF.out _ HT3.out | with_reducible exact HF.out _ HT4.out | with_reducible exact HF.out _ HQ.out | with_reducible exact HF.out _ (HQ.out.alloc _) | with_reducible exact HF.out _ ((HQ.out.alloc _).alloc _))
    (first
    | ((with_reducible refine HC1.out.mono ?_); rintro e w3 ⟨rfl, g3⟩; have HQ : Hid (Tn Nil w2 w3) := Lib.hid (HT1.out.trans (tn_below Nil g3)); clear g3)
    | ((with_reducible refine HC2.out.mono ?_); rintro e w3 ⟨rfl, g3⟩; have HQ : Hid (Tn Nil w2 w3) := Lib.hid (HT2.out.trans (tn_below Nil g3)); have HR : Hid (At w3 (w2.heap.size + 1) 9 [.string t]) := Lib.hid (HS2.out.tn (tn_below Nil g3) (fun e => e)); clear g3)
    | ((with_reducible refine HC3.out.mono ?_); rintro e w3 ⟨rfl, g3⟩; have HQ : Hid (Tn Nil w2 w3) := Lib.hid (HT3.out.trans (tn_below Nil g3)); have HR : Hid (At w3 w2.heap.size 9 [.string t]) := Lib.hid (HS3.out.tn (tn_below Nil g3) (fun e => e)); clear g3))
  · go_wp2_with fail
    go_ret
    have h1 : szE w ≤ w3.heap.size := Nat.le_trans HSZ.out HQ.out.size
    have hp := At.new (w3.alloc (.cells #[.string t] 9)) 95 (ecells k need (ofS [x]) (.slice (some ⟨w3.heap.size, 0, none⟩) 1 1) none none)
    rw [size_alloc] at hp
    have hs := (sr_one w3 t).tn ((Tn.refl Nil (w3.alloc (.cells #[.string t] 9))).alloc (.cells (ecells k need (ofS [x]) (.slice (some ⟨w3.heap.size, 0, none⟩) 1 1) none none).toArray 95)) (fun _ _ _ e => e)
    exact ⟨w3.heap.size + 1, w3.heap.size, _, rfl, by omega, Nat.le_trans h1 (by omega), h1, by rw [size_alloc, size_alloc]; omega, hp, hs, ((T2.out.trans HQ.out).alloc _).alloc _⟩
  all_goals
    go_wp2_with fail
    go_ret
    have h1 : szE w ≤ w3.heap.size := Nat.le_trans HSZ.out HQ.out.size
    have hg := At.lt HR.out
    exact ⟨w3.heap.size, _, _, rfl, by omega, h1, Nat.le_trans HSZ.out (by omega), by rw [size_alloc]; omega, At.new w3 95 (ecells k need (ofS [x]) _ none none), (sr_at HR.out).tn ((Tn.refl Nil w3).alloc _) (fun _ _ _ e => e), (T2.out.trans HQ.out).alloc _⟩
end Go.Proofs.Ytgclgmfmcgacdaa

/- Proved: what add of package table leaves of an entry. Conditions: those that the theorems name. -/
namespace Go.Proofs.Ytgclgmfmcgacdaa
open Go.ChangeShapes Go.WideShapes Go.ChangeAt Go.RowKit

set_option maxRecDepth 100000 in
set_option maxHeartbeats 1600000 in
theorem nd_add {w : World} {p need : Nat} {k : Ky} {s : ByteArray} {v : Value} {a b : Option Nat} {l : List Shd} {c : Nat → Prop} (h : Nd w p k need s v a b) (hs : Idx s l) (hr : Sr w c v (l.map (·.2))) (hl : 1 ≤ l.length ∧ l.length ≤ 32) (hp : ¬ c p) (hc : ∀ i, w.heap.size ≤ i → ¬ c i) (i : Nat) (hi : i ≤ 254) (t : ByteArray) :
    Calls Try.prog 44 #[ptv p, .int .i64 (plS l (i : Int) : Nat), .agg #[.int .i64 i, .string t]] w fun e w' => e = .returned (.tuple #[]) ∧
      (∃ s' v' g, Nd w' p k need s' v' a b ∧ Idx s' (insS l ((i : Int), t)) ∧ Sr w' (fun j => j = g) v' ((insS l ((i : Int), t)).map (·.2)) ∧ (c g ∨ w.heap.size ≤ g)) ∧ Tn (fun j => j = p ∨ c j) w w' := by
  obtain ⟨g0, cap0, cur0, rfl, _⟩ := hr.form (by rw [List.length_map]; omega)
  rw [List.length_map] at h hr
  have HT1 : Hid (Tn Nil w (w.alloc (.cells #[.int .i64 i, .string t] 32))) := Lib.hid ((Tn.refl _ w).alloc _)
  have HN1 := Lib.hid (h.tn HT1.out (fun e => e))
  have HR1 := Lib.hid (hr.tn HT1.out (fun _ _ _ e => e))
  have HX1 := Lib.hid (At.new w 32 [.int .i64 i, .string t])
  have HPL0 : Hid (p < szE w) := Lib.hid (At.lt h)
  have HPX : Hid (p ≠ w.heap.size) := Lib.hid (by have := At.lt h; omega)
  have HCX : Hid (¬ c w.heap.size) := Lib.hid (hc _ (Nat.le_refl _))
  have HC : Hid (∀ i, szE w ≤ i → ¬ c i) := Lib.hid hc
  have HCP := Lib.hid hp
  have HL := Lib.hid hl
  have hset : setE s (i : Int) = 0 ∧ setS s (i : Int) = tx (withB (bts s) (i : Int)) := setE_in hs.size (inB_of (by omega) (by omega))
  have HI := Lib.hid (hs.set ((i : Int), t))
  have HPL := Lib.hid (plS_le l (i : Int))
  have HB := Lib.hid (insS_body l ((i : Int), t))
  have HS := Lib.hid (fun W => set11_any s (i : Int) W)
  rw [hset.1, hset.2] at HS
  clear h hs hr hp hc hset hl
  generalize tx (withB (bts s) (i : Int)) = s' at *
  go_enter Try.func44, Try.ntmps44
  go_wp2_with fail
  have HBX : Hid (szE w ≤ w.heap.size) := Lib.hid (Nat.le_refl _)
  generalize w.heap.size = bx at *
  generalize w.alloc (.cells #[.int .i64 i, .string t] 32) = w1 at *
  obtain ⟨Mid, hmid⟩ : ∃ Mid : World → Prop, Mid = fun wx => Nd wx p k need s' (.slice (some ⟨g0, 0, none⟩) l.length cap0) a b ∧ Sr wx c (.slice (some ⟨g0, 0, none⟩) l.length cap0) (l.map (·.2)) ∧ At wx bx 32 [.int .i64 i, .string t] ∧ Tn (fun j => j = p ∨ c j) w wx := ⟨_, rfl⟩
  have HMID := Lib.hid hmid
  clear hmid
  go_cut [] (fun wx => Mid wx)
  case first =>
    have p3 := At.cell HN1.out 3 rfl
    have x0 := HX1.out.cell 0 rfl
    go_region_with (go_at_call 60; refine (HS.out _).mono ?_; rintro e w2 ⟨rfl, g2⟩; have HT2 : Hid (Tn Nil w1 w2) := Lib.hid ((Tn.refl Nil w1).drew.trans (tn_below Nil g2)); have HN2 : Hid (Nd w2 p k need s (.slice (some ⟨g0, 0, none⟩) l.length cap0) a b) := Lib.hid (HN1.out.tn HT2.out (fun e => e)); have q3 := At.cell HN2.out 3 rfl; have f3 := At.free HN2.out 3; clear g2)
    all_goals
      go_wp2_with fail
      go_meet
      rw [HMID.out]
      have hst : Tn (fun j => j = p) w2 (w2.setCell ⟨p, 3, none⟩ (.string s')) := (Tn.refl (fun j => j = p) w2).set ⟨p, 3, none⟩ _ (fun _ => rfl)
      exact ⟨At.set_ HN2.out 3 _, (HR1.out.tn HT2.out (fun _ _ _ e => e)).tn hst (fun j _ e f => HCP.out (by rw [← show j = p from f]; exact e)), (HX1.out.tn HT2.out (fun e => e)).tn hst (fun e => HPX.out e.symm), ((HT1.out.trans HT2.out).mono fun _ _ e => e.elim).set ⟨p, 3, none⟩ _ (fun _ => .inl rfl)⟩
  case rest =>
    rename World => w3
    rw [HMID.out] at hcut
    obtain ⟨hn3, hr3, hx3, htw⟩ := hcut
    have HTW := Lib.hid htw
    have HN3 := Lib.hid hn3
    have HR3 := Lib.hid hr3
    have HX3 := Lib.hid hx3
    clear hn3 hr3 hx3 htw HMID HS HN1 HR1 HX1 HT1
    have p4 := At.cell HN3.out 4 rfl
    have x1 := HX3.out.cell 1 rfl
    have hpl := At.lt HN3.out
    have hxl := HX3.out.lt
    have HTA : Hid (Tn Nil w3 (w3.alloc (.cells #[.string t] 9)).drew) := Lib.hid ((Tn.refl Nil w3).alloc _).drew
    have hca : ∀ j, w3.heap.size ≤ j → ¬ c j := fun j hj => HC.out j (Nat.le_trans HTW.out.size hj)
    have hins := tb_insert (HR3.out.tn HTA.out (fun _ _ _ e => e)) (by rw [List.length_map]; exact HL.out) (i := plS l (i : Int)) (by rw [List.length_map]; exact HPL.out) ((At.new w3 9 [.string t]).tn (Tn.refl Nil _).drew (fun e => e)) (hca _ (Nat.le_refl _))
    have HINS : Hid (Calls Try.prog 61 #[.slice (some ⟨g0, 0, none⟩) l.length cap0, .int .i64 (plS l (i : Int) : Nat), .slice (some ⟨w3.heap.size, 0, none⟩) 1 1] (w3.alloc (.cells #[.string t] 9)).drew fun e w5 => ∃ g cap N, e = .returned (.slice (some ⟨g, 0, none⟩) N cap) ∧ Sr w5 (fun i => i = g) (.slice (some ⟨g, 0, none⟩) N cap) ((l.map (·.2)).take (plS l (i : Int)) ++ t :: (l.map (·.2)).drop (plS l (i : Int))) ∧ (c g ∨ (w3.alloc (.cells #[.string t] 9)).drew.heap.size ≤ g) ∧ Tn c (w3.alloc (.cells #[.string t] 9)).drew w5) := Lib.hid (hins.mono fun e w' ⟨g, cap, he, h1, h2, h3⟩ => ⟨g, cap, _, he, h1, h2, h3⟩)
    clear hins
    have HTQ : Hid (Tn c w3 (w3.alloc (.cells #[.string t] 9)).drew) := Lib.hid (HTA.out.mono fun _ _ e => e.elim)
    have HSZ : Hid (szE w ≤ w3.heap.size) := Lib.hid HTW.out.size
    have HAL : Hid (∀ g, (w3.alloc (.cells #[.string t] 9)).drew.heap.size ≤ g → szE w ≤ g) := Lib.hid fun g hg => Nat.le_trans HSZ.out (Nat.le_trans HTA.out.size hg)
    have HTC : Hid (∀ w5, Tn c (w3.alloc (.cells #[.string t] 9)).drew w5 → Tn c w3 w5) := Lib.hid fun w5 ht => HTQ.out.trans' ht (fun j _ e => e)
    clear hca
    go_wp2_with fail
    go_region_with (go_at_call 61; (with_reducible refine HINS.out.mono ?_); rintro e w5 ⟨g, cap, N, rfl, hsr, hgc, ht⟩; have HT5 := Lib.hid (HTC.out w5 ht); have HSR := Lib.hid hsr; have HGC := Lib.hid (hgc.imp (fun e => e) (HAL.out g)); have HN5 := Lib.hid (HN3.out.tn HT5.out HCP.out); have q4 := At.cell HN5.out 4 rfl; have f4 := At.free HN5.out 4; clear hsr hgc ht)
    all_goals
      go_end0
      have hst : Tn (fun j => j = p) w5 (w5.setCell ⟨p, 4, none⟩ (.slice (some ⟨g, 0, none⟩) N cap)) := (Tn.refl (fun j => j = p) w5).set ⟨p, 4, none⟩ _ (fun _ => rfl)
      refine ⟨rfl, ⟨s', _, g, At.set_ HN5.out 4 _, HI.out, ?_, HGC.out⟩, (HTW.out.trans (HT5.out.mono fun _ _ e => .inr e)).set ⟨p, 4, none⟩ _ (fun _ => .inl rfl)⟩
      rw [HB.out]
      refine HSR.out.tn hst fun j _ e f => ?_
      have e : j = g := e
      have f : j = p := f
      rcases HGC.out with h | h
      · exact HCP.out (by rw [← f, e]; exact h)
      · have := HPL0.out
        rw [← f, e] at this
        exact absurd this (Nat.not_lt.2 h)
end Go.Proofs.Ytgclgmfmcgacdaa

/- Proved: what newEntry, add and shards of package table leave. Conditions: those that the theorems name. -/
import Derived.Test.YtgclgmfmcgacdaaTbRep
import Derived.Test.YtgclgmfmcgacdaaTbIns
import Derived.Test.YtgclgmfmcgacdaaTbQuiet
import Derived.Test.YtgclgmfmcgacdaaBitOf
import Derived.Deep.RegionHeld3
namespace Go.Proofs.Ytgclgmfmcgacdaa
open Go.ChangeShapes Go.WideShapes Go.ChangeAt Go.RowKit

theorem is_z1 (V : World) (x : Int) : Is (V.alloc (.cells #[.int .i64 x] 3)).drew (some ⟨V.heap.size, 0, none⟩) 1 [x] := (is_zone V x).below ((Below.refl _ _).drew)
theorem is_z2 (V : World) (x : Int) (o : Obj) : Is ((V.alloc (.cells #[.int .i64 x] 3)).alloc o).drew (some ⟨V.heap.size, 0, none⟩) 1 [x] := (is_zone V x).below (((Below.refl _ _).alloc (Nat.le_refl _) o).drew)
theorem size_alloc (w : World) (o : Obj) : (w.alloc o).heap.size = w.heap.size + 1 := by
  show (w.heap.push _).size = _
  rw [Array.size_push]
theorem is_z3 (V : World) (x : Int) (o : Obj) : Is ((V.alloc o).alloc (.cells #[.int .i64 x] 3)).drew (some ⟨V.heap.size + 1, 0, none⟩) 1 [x] := by
  have := is_z1 (V.alloc o) x
  rwa [size_alloc] at this
theorem sr_at {W : World} {g : Nat} {t : ByteArray} (h : At W g 9 [.string t]) : Sr W (fun i => i = g) (.slice (some ⟨g, 0, none⟩) 1 1) [t] :=
  sr_of_cells (l := [t]) h rfl (Nat.le_refl _) (by unfold maxLen; omega) (fun j hj => by
    obtain rfl : j = 0 := by simpa using hj
    exact h.cell 0 rfl)
/-- how much memory there is (by a name that no generalizing meets). -/
def szE (w : World) : Nat := w.heap.size
set_option maxRecDepth 100000 in
set_option maxHeartbeats 1600000 in
theorem tb_new_entry (k : Ky) (need : Nat) (x : Int) (t : ByteArray) (w : World) :
    Calls Try.prog 29 #[kyV k, .int .i64 need, .agg #[.int .i64 x, .string t]] w fun e w' => ∃ p g v, e = .returned (ptv p) ∧ p ≠ g ∧ w.heap.size ≤ p ∧ w.heap.size ≤ g ∧ g < w'.heap.size ∧ Nd w' p k need (ofS [x]) v none none ∧ Sr w' (fun i => i = g) v [t] ∧ Tn Nil w w' := by
  have T1 : Tn Nil w (w.alloc (.cells #[.int .i64 k.1, .int .u32 k.2] 35)) := (Tn.refl _ w).alloc _
  have HK := Lib.hid ((At.new w 35 [.int .i64 k.1, .int .u32 k.2]).alloc (.cells #[.int .i64 x, .string t] 32))
  have hx := At.new (w.alloc (.cells #[.int .i64 k.1, .int .u32 k.2] 35)) 32 [.int .i64 x, .string t]
  have T2 := Lib.hid (T1.alloc (.cells #[.int .i64 x, .string t] 32))
  rw [size_alloc] at hx
  have HX := Lib.hid hx
  have k0 := HK.out.cell 0 rfl
  have k1 := HK.out.cell 1 rfl
  have x0 := HX.out.cell 0 rfl
  have x1 := HX.out.cell 1 rfl
  clear T1 hx
  go_enter Try.func29, Try.ntmps29
  go_wp2_with fail
  generalize ((w.alloc (.cells #[.int .i64 k.1, .int .u32 k.2] 35)).alloc (.cells #[.int .i64 x, .string t] 32)) = w2 at *
  have HSZ : Hid (szE w ≤ w2.heap.size) := Lib.hid T2.out.size
  have hb1 := HK.out.lt
  have hb2 := HX.out.lt
  generalize w.heap.size + 1 = b2 at *
  generalize w.heap.size = b1 at *
  have HC1 := Lib.hid (of_any _ 1 1 [x] _ (is_z1 w2 x) (by omega))
  have HC2 := Lib.hid (of_any _ 1 1 [x] _ (is_z2 w2 x (.cells #[.string t] 9)) (by omega))
  have HC3 := Lib.hid (of_any _ 1 1 [x] _ (is_z3 w2 x (.cells #[.string t] 9)) (by omega))
  have HT1 : Hid (Tn Nil w2 (w2.alloc (.cells #[.int .i64 x] 3)).drew) := Lib.hid ((Tn.refl Nil w2).alloc _).drew
  have HT2 : Hid (Tn Nil w2 ((w2.alloc (.cells #[.int .i64 x] 3)).alloc (.cells #[.string t] 9)).drew) := Lib.hid (((Tn.refl Nil w2).alloc _).alloc _).drew
  have HT3 : Hid (Tn Nil w2 ((w2.alloc (.cells #[.string t] 9)).alloc (.cells #[.int .i64 x] 3)).drew) := Lib.hid (((Tn.refl Nil w2).alloc _).alloc _).drew
  have HT4 : Hid (Tn Nil w2 (w2.alloc (.cells #[.string t] 9)).drew) := Lib.hid ((Tn.refl Nil w2).alloc _).drew
  have HF : Hid (∀ w3, Tn Nil w2 w3 → w3.cell? ⟨b1, 0, none⟩ = some (.int .i64 k.1) ∧ w3.cell? ⟨b1, 1, none⟩ = some (.int .u32 k.2) ∧ w3.cell? ⟨b2, 0, none⟩ = some (.int .i64 x) ∧ w3.cell? ⟨b2, 1, none⟩ = some (.string t)) := Lib.hid fun w3 T =>
    ⟨(HK.out.tn T (fun e => e)).cell 0 rfl, (HK.out.tn T (fun e => e)).cell 1 rfl, (HX.out.tn T (fun e => e)).cell 0 rfl, (HX.out.tn T (fun e => e)).cell 1 rfl⟩
  have HS2 : Hid (At ((w2.alloc (.cells #[.int .i64 x] 3)).alloc (.cells #[.string t] 9)).drew (w2.heap.size + 1) 9 [.string t]) := Lib.hid (by
    have := At.new (w2.alloc (.cells #[.int .i64 x] 3)) 9 [.string t]
    rw [size_alloc] at this
    exact this.tn (Tn.refl Nil _).drew (fun e => e))
  have HS3 : Hid (At ((w2.alloc (.cells #[.string t] 9)).alloc (.cells #[.int .i64 x] 3)).drew w2.heap.size 9 [.string t]) := Lib.hid (((At.new w2 9 [.string t]).alloc _).tn (Tn.refl Nil _).drew (fun e => e))
  have HT00 : Hid (Tn Nil w2 w2) := Lib.hid (Tn.refl Nil w2)
  have HT0 : Hid (Tn Nil w2 w2.drew) := Lib.hid (Tn.refl Nil w2).drew
  clear HK HX
  go_region_held3 (fun w' => w'.cell? ⟨b1, 0, none⟩ = some (.int .i64 k.1) ∧ w'.cell? ⟨b1, 1, none⟩ = some (.int .u32 k.2) ∧ w'.cell? ⟨b2, 0, none⟩ = some (.int .i64 x) ∧ w'.cell? ⟨b2, 1, none⟩ = some (.string t))
    (first | with_reducible exact HF.out _ HT00.out | with_reducible exact HF.out _ HT0.out | with_reducible exact HF.out _ HT1.out | with_reducible exact HF.out _ HT2.out | with_reducible exact HF.out _ HT3.out | with_reducible exact HF.out _ HT4.out | with_reducible exact HF.out _ HQ.out | with_reducible exact HF.out _ (HQ.out.alloc _) | with_reducible exact HF.out _ ((HQ.out.alloc _).alloc _))
    (first
    | ((with_reducible refine HC1.out.mono ?_); rintro e w3 ⟨rfl, g3⟩; have HQ : Hid (Tn Nil w2 w3) := Lib.hid (HT1.out.trans (tn_below Nil g3)); clear g3)
    | ((with_reducible refine HC2.out.mono ?_); rintro e w3 ⟨rfl, g3⟩; have HQ : Hid (Tn Nil w2 w3) := Lib.hid (HT2.out.trans (tn_below Nil g3)); have HR : Hid (At w3 (w2.heap.size + 1) 9 [.string t]) := Lib.hid (HS2.out.tn (tn_below Nil g3) (fun e => e)); clear g3)
    | ((with_reducible refine HC3.out.mono ?_); rintro e w3 ⟨rfl, g3⟩; have HQ : Hid (Tn Nil w2 w3) := Lib.hid (HT3.out.trans (tn_below Nil g3)); have HR : Hid (At w3 w2.heap.size 9 [.string t]) := Lib.hid (HS3.out.tn (tn_below Nil g3) (fun e => e)); clear g3))
  · go_wp2_with fail
    go_ret
    have h1 : szE w ≤ w3.heap.size := Nat.le_trans HSZ.out HQ.out.size
    have hp := At.new (w3.alloc (.cells #[.string t] 9)) 95 (ecells k need (ofS [x]) (.slice (some ⟨w3.heap.size, 0, none⟩) 1 1) none none)
    rw [size_alloc] at hp
    have hs := (sr_one w3 t).tn ((Tn.refl Nil (w3.alloc (.cells #[.string t] 9))).alloc (.cells (ecells k need (ofS [x]) (.slice (some ⟨w3.heap.size, 0, none⟩) 1 1) none none).toArray 95)) (fun _ _ _ e => e)
    exact ⟨w3.heap.size + 1, w3.heap.size, _, rfl, by omega, Nat.le_trans h1 (by omega), h1, by rw [size_alloc, size_alloc]; omega, hp, hs, ((T2.out.trans HQ.out).alloc _).alloc _⟩
  all_goals
    go_wp2_with fail
    go_ret
    have h1 : szE w ≤ w3.heap.size := Nat.le_trans HSZ.out HQ.out.size
    have hg := At.lt HR.out
    exact ⟨w3.heap.size, _, _, rfl, by omega, h1, Nat.le_trans HSZ.out (by omega), by rw [size_alloc]; omega, At.new w3 95 (ecells k need (ofS [x]) _ none none), (sr_at HR.out).tn ((Tn.refl Nil w3).alloc _) (fun _ _ _ e => e), (T2.out.trans HQ.out).alloc _⟩
end Go.Proofs.Ytgclgmfmcgacdaa

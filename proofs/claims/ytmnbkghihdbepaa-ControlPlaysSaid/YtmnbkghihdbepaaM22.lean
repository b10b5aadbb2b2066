/- Proved: lemmas of one statement's proof, merged by program: what each part proves stands ahead of it. Conditions: those that the lemmas name. -/
import Derived.Test.YtmnbkghihdbepaaM21
import Derived.Test.YtmnbkghihdbepaaM15

/- Proved: what the function that remove hands to slices.DeleteFunc answers and leaves. Conditions: those that the theorems name. -/
namespace Go.Proofs.Ytmnbkghihdbepaa
open Go.ChangeShapes Go.WideShapes Go.ChangeAt Go.RowKit

/-- the function F, with what it captured, tells of a datagram whether it is unwanted. -/
def Tells (F : Nat) (caps : Array Value) (u : Dg → Bool) (W : World) : Prop :=
  (∀ args V, (callFunc F args).run Try.prog V = .ok (.enter F args) V) ∧ ∀ V, Tn Nil W V → ∀ (p : Nat) (d : Dg), At V p 29 d.cells → DOk d → Calls Try.prog F (#[ptv p] ++ caps) V fun e w' => e = .returned (.bool (u d)) ∧ Tn Nil V w'
set_option maxRecDepth 100000 in
set_option maxHeartbeats 1600000 in
theorem rem1_no {F : Nat} {caps : Array Value} {u : Dg → Bool} {W : World} (hU : Tells F caps u W) {bf bc p : Nat} {d : Dg} (hf : At W bf 59 [.func (.func F) #[] caps]) (hp : At W p 29 d.cells) (ok : DOk d) (hu : u d = false) :
    Calls Try.prog 31 #[ptv p, ptv bf, ptv bc] W fun e w' => e = .returned (.bool false) ∧ Tn Nil W w' := by
  have heg := hU.1
  have HU := Lib.hid (hU.2 W (Tn.refl _ _) p d hp ok)
  have c0 := hf.cell 0 rfl
  rw [hu] at HU
  clear hU hf hp ok
  go_enter Try.func31, Try.ntmps31
  go_wp2_with fail
  refine HU.out.mono ?_; rintro e w2 ⟨rfl, g2⟩
  have G2 := Lib.hid g2
  clear g2 c0
  go_wp2_with fail
  go_ret
  exact ⟨rfl, G2.out⟩
set_option maxRecDepth 100000 in
set_option maxHeartbeats 3200000 in
theorem rem1_yes {F : Nat} {caps : Array Value} {u : Dg → Bool} {W : World} (hU : Tells F caps u W) {bf bc b m n p : Nat} {rv : Value} {d : Dg} {f : Sk → Option Nat} (hf : At W bf 59 [.func (.func F) #[] caps]) (hc : At W bc 24 [ptv b]) (hb : At W b 50 [rv, .map (some m)]) (hp : At W p 29 d.cells) (ok : DOk d) (hu : u d = true)
    (hm : Mq W m f (n + 1)) (hs : (f (subj d)).isSome = true) :
    Calls Try.prog 31 #[ptv p, ptv bf, ptv bc] W fun e w' => e = .returned (.bool true) ∧ Mq w' m (fun i => if i = subj d then none else f i) n ∧ Tn (fun i => i = m) W w' := by
  have heg := hU.1
  have HU := Lib.hid (hU.2 W (Tn.refl _ _) p d hp ok)
  have c0 := hf.cell 0 rfl
  rw [hu] at HU
  have HS := Lib.hid (fun W => subj_any d W)
  have HP : Hid (∀ V, Tn Nil W V → ∀ ty, ∃ w', (Builtin.delete_ #[47, 54] ty #[.map (some m), skV (subj d)]).run Try.prog V = .ok (.tuple #[]) w' ∧ Mq w' m (fun i => if i = subj d then none else f i) n ∧ V.grownBy w' (some m)) := Lib.hid fun V t ty => mq_del (hm.tn t (fun e => e)) ok.sk hs ty
  have HNE : Hid (bc ≠ m ∧ b ≠ m ∧ p ≠ m) := Lib.hid ⟨hm.no_cell hc, hm.no_cell hb, hm.no_cell hp⟩
  have HL : Hid (∀ V, Tn Nil W V → At V bc 24 [ptv b] ∧ At V b 50 [rv, .map (some m)] ∧ At V p 29 d.cells) := Lib.hid fun V t => ⟨hc.tn t (fun e => e), hb.tn t (fun e => e), hp.tn t (fun e => e)⟩
  clear hU hf hp ok hc hb hm hs hu
  generalize hG : (fun i => if i = subj d then none else f i) = G at *
  clear hG
  generalize subj d = sj at *
  obtain ⟨s0, s1, s2⟩ := sj
  obtain ⟨a0, a1, a2, a3, a4, a5, a6, a7, a8, a9⟩ := d
  unfold Dg.val at *
  unfold Dg.cells at *
  dsimp only at *
  go_enter Try.func31, Try.ntmps31
  go_wp2_with fail
  refine HU.out.mono ?_; rintro e w2 ⟨rfl, g2⟩
  have G2 := Lib.hid g2
  clear g2 c0
  go_wp2_with fail
  have KP : Hid (∀ V W' : World, Tn Nil W V → Tn Nil V W' → W'.cell? ⟨bc, 0, none⟩ = some (ptv b) ∧ W'.cell? ⟨b, 1, none⟩ = some (.map (some m)) ∧ W'.cell? ⟨p, 0, none⟩ = some (.int .i64 a0) ∧ W'.cell? ⟨p, 1, none⟩ = some (.int .i64 a1) ∧ W'.cell? ⟨p, 2, none⟩ = some (.int .u32 a2) ∧ W'.cell? ⟨p, 3, none⟩ = some (.int .i64 a3) ∧ W'.cell? ⟨p, 4, none⟩ = some (.int .i64 a4) ∧ W'.cell? ⟨p, 5, none⟩ = some (.int .i64 a5) ∧ W'.cell? ⟨p, 6, none⟩ = some (.int .i64 a6) ∧ W'.cell? ⟨p, 7, none⟩ = some (.int .i64 a7) ∧ W'.cell? ⟨p, 8, none⟩ = some (.string a8) ∧ W'.cell? ⟨p, 9, none⟩ = some (.string a9)) := Lib.hid fun V W' hV hW => by
    obtain ⟨x, y, q⟩ := HL.out _ (hV.trans hW)
    exact ⟨x.cell 0 rfl, y.cell 1 rfl, q.cell 0 rfl, q.cell 1 rfl, q.cell 2 rfl, q.cell 3 rfl, q.cell 4 rfl, q.cell 5 rfl, q.cell 6 rfl, q.cell 7 rfl, q.cell 8 rfl, q.cell 9 rfl⟩
  have KQ : Hid (∀ V W' : World, Tn Nil W V → V.grownBy W' (some m) → W'.cell? ⟨bc, 0, none⟩ = some (ptv b) ∧ W'.cell? ⟨b, 1, none⟩ = some (.map (some m)) ∧ W'.cell? ⟨p, 0, none⟩ = some (.int .i64 a0) ∧ W'.cell? ⟨p, 1, none⟩ = some (.int .i64 a1) ∧ W'.cell? ⟨p, 2, none⟩ = some (.int .u32 a2) ∧ W'.cell? ⟨p, 3, none⟩ = some (.int .i64 a3) ∧ W'.cell? ⟨p, 4, none⟩ = some (.int .i64 a4) ∧ W'.cell? ⟨p, 5, none⟩ = some (.int .i64 a5) ∧ W'.cell? ⟨p, 6, none⟩ = some (.int .i64 a6) ∧ W'.cell? ⟨p, 7, none⟩ = some (.int .i64 a7) ∧ W'.cell? ⟨p, 8, none⟩ = some (.string a8) ∧ W'.cell? ⟨p, 9, none⟩ = some (.string a9)) := Lib.hid fun V W' hV hW => by
    obtain ⟨x, y, q⟩ := HL.out _ hV
    have x := x.kept hW (fun e => by injection e with e; exact HNE.out.1 e.symm)
    have y := y.kept hW (fun e => by injection e with e; exact HNE.out.2.1 e.symm)
    have q := q.kept hW (fun e => by injection e with e; exact HNE.out.2.2 e.symm)
    exact ⟨x.cell 0 rfl, y.cell 1 rfl, q.cell 0 rfl, q.cell 1 rfl, q.cell 2 rfl, q.cell 3 rfl, q.cell 4 rfl, q.cell 5 rfl, q.cell 6 rfl, q.cell 7 rfl, q.cell 8 rfl, q.cell 9 rfl⟩
  have QQ : Hid (Tn Nil W w2.drew) := Lib.hid G2.out.drew
  obtain ⟨k0, k1, k2, k3, k4, k5, k6, k7, k8, k9, k10, k11⟩ := KP.out _ _ G2.out (Tn.refl _ w2).drew
  go_region_held3 (fun W' => W'.cell? ⟨bc, 0, none⟩ = some (ptv b) ∧ W'.cell? ⟨b, 1, none⟩ = some (.map (some m)) ∧ W'.cell? ⟨p, 0, none⟩ = some (.int .i64 a0) ∧ W'.cell? ⟨p, 1, none⟩ = some (.int .i64 a1) ∧ W'.cell? ⟨p, 2, none⟩ = some (.int .u32 a2) ∧ W'.cell? ⟨p, 3, none⟩ = some (.int .i64 a3) ∧ W'.cell? ⟨p, 4, none⟩ = some (.int .i64 a4) ∧ W'.cell? ⟨p, 5, none⟩ = some (.int .i64 a5) ∧ W'.cell? ⟨p, 6, none⟩ = some (.int .i64 a6) ∧ W'.cell? ⟨p, 7, none⟩ = some (.int .i64 a7) ∧ W'.cell? ⟨p, 8, none⟩ = some (.string a8) ∧ W'.cell? ⟨p, 9, none⟩ = some (.string a9))
    (first | go_keep | with_reducible exact KS.out | with_reducible exact KS5.out)
    (((with_reducible refine (HS.out _).mono ?_); rintro e w4 ⟨rfl, g4⟩; have QN := Lib.hid (tn_below Nil g4); obtain ⟨w5, hrun, hm5, hg5⟩ := HP.out w4 (QQ.out.trans QN.out) 0; have HM5 := Lib.hid hm5; have HG5 := Lib.hid hg5; have HT4 := Lib.hid (QQ.out.trans QN.out); have KS := Lib.hid (KP.out _ _ QQ.out QN.out); have KS5 := Lib.hid (KQ.out _ _ HT4.out hg5); clear g4 hm5 hg5))
  clear KS KS5 KP KQ QN hrun k0 k1 k2 k3 k4 k5 k6 k7 k8 k9 k10 k11
  go_wp2_with fail
  go_ret
  exact ⟨rfl, HM5.out, (HT4.out.mono (fun _ _ e => e.elim)).trans (tn_grown HG5.out (fun g e => by injection e with e; exact e.symm))⟩
/-- the map, if one is unwanted. -/
def delF (b : Bool) (k : Sk) (f : Sk → Option Nat) : Sk → Option Nat := if b = true then fun i => if i = k then none else f i else f
end Go.Proofs.Ytmnbkghihdbepaa

/- Plain lemmas on the end of a slice that lies anywhere in a block of the call's own: what a clear of its last elements leaves. No condition beyond those that each lemma names. -/
namespace Go.Proofs.Ytmnbkghihdbepaa
open Go.ChangeShapes Go.WideShapes Go.ChangeAt Go.RowKit

/-- the last elements are cleared, the first i are what is left. -/
theorem Qu.cutTail {w : World} {r : Option Nat} {t e : TypeId} {k : Nat} {z : Value} (ht : Try.prog.underlying t = some (.slice e)) (hzs : z.cells.size = k) (hv : ∀ w, (zeroValue e).run Try.prog w = .ok z w)
    (hz1' : ∀ n, ∀ u ∈ (Builtin.zeroCells z.cells n).toList, u.oneCell' = true) {g o n cap i : Nat} {xs : List Value} (hq : Qu w r e k (.slice (some ⟨g, o, none⟩) n cap) n xs) (hi : i < n) :
    n ≤ cap ∧ ∃ W2, (∀ ty c, (Builtin.clear_ #[t] ty #[.slice (some ⟨g, o + i * k, none⟩) (n - i) c]).run Try.prog w = .ok (.tuple #[]) W2) ∧ Qu W2 r e k (.slice (some ⟨g, o, none⟩) i cap) i (xs.take (i * k)) ∧ Tn (fun j => r = some j) w W2 := by
  have hx := hq.1
  obtain ⟨cur, hr, hg, hc, hcm, hfit, hcells⟩ : ∃ cur, r = some g ∧ w.heap[g]? = some (.cells cur e (0, 0)) ∧ n ≤ cap ∧ cap ≤ maxLen ∧ o + cap * k ≤ cur.size ∧ (cur.toList.drop o).take (n * k) = xs := by
    rcases hq.2 with ⟨h, _⟩ | ⟨g', o', cap', cur, hr, hv, h⟩
    · cases h
    · injection hv with hv _ hc
      injection hv with hv
      injection hv with hg ho
      subst hg; subst ho; subst hc
      exact ⟨cur, hr, h⟩
  refine ⟨hc, ?_⟩
  have hcl : cur.toList.length = cur.size := Array.length_toList
  have hik : i * k + (n - i) * k = n * k := by rw [← Nat.add_mul]; congr 1; omega
  have hnc : n * k ≤ cap * k := Nat.mul_le_mul_right k hc
  have hclr := fun ty c => run_clear_cells (P := Try.prog) w t e ty z ht hv g (o + i * k) (n - i) c (by omega) cur hg (by rw [hzs]; omega) (hz1' (n - i))
  rw [hzs] at hclr
  have hzl : (Builtin.zeroCells z.cells (n - i)).toList.length = (n - i) * k := by simp [Builtin.zeroCells, hzs]
  refine ⟨_, hclr, ⟨by rw [List.length_take, hx]; omega, .inr ⟨g, o, cap, _, hr, rfl, setRow_heap w g cur _ _ _ hg, by omega, hcm, ?_, ?_⟩⟩, ⟨rfl, rfl, rfl, by simp [World.setRow], fun j hj hn => setRow_other _ g j _ (fun e => hn (by rw [hr, e]))⟩⟩
  · simp only [List.size_toArray, List.length_append, List.length_take, List.length_drop, hzl, hcl]
    omega
  · rw [← hcells, List.append_assoc]
    simp only []
    have e3 : (cur.toList.take (o + i * k)).length = o + i * k := by rw [List.length_take, hcl]; omega
    rw [List.drop_append_of_le_length (by rw [e3]; omega), List.drop_take, show o + i * k - o = i * k by omega]
    have e4 : ((cur.toList.drop o).take (i * k)).length = i * k := by rw [List.length_take, List.length_drop, hcl]; omega
    rw [List.take_append_of_le_length (by rw [e4]; exact Nat.le_refl _), List.take_take, List.take_take, Nat.min_self, Nat.min_eq_left (by omega)]
end Go.Proofs.Ytmnbkghihdbepaa

/- Proved: lemmas of one statement's proof, merged by program: what each part proves stands ahead of it. Conditions: those that the lemmas name. -/
import Derived.Test.YtedecminaopgaaaM19
import Derived.Test.YtedecminaopgaaaM15
import Derived.Test.YtedecminaopgaaaRows
import Derived.KernelRfl
import Derived.WalkKit
import Derived.ProofKit
import Derived.LoopTactic
import Derived.Laws.BitsAllLaws
import Derived.Lib.Hide
import Derived.Deep.QuietTactic
import Derived.BigQuiet
import Derived.WalkSpells

/- Proved: what New of package inbound answers and leaves. Conditions: those that the theorems name. -/
namespace Go.Proofs.Ytedecminaopgaaa
open Go.ChangeShapes Go.WideShapes Go.ChangeAt Go.RowKit

/-- nothing came. -/
def ibM0 (c : Cf) : IbM := ⟨c.w, c.q.toNat, 0, [], S0, 0, 0, 0, false⟩
theorem cf_queue {c : Cf} (h : c.ok = true) : 1 ≤ c.q ∧ c.q ≤ 1048576 := by
  obtain ⟨⟨q1, q2⟩, _, ⟨s1, s2⟩, _, _⟩ := cf_lims h
  have hb := block_in _ _ q1 q2 s1 s2
  unfold Cf.ok at h
  simp only [Bool.and_eq_true, cfInZ_iff] at h
  have := h.2.2.2.2.2.1
  omega
set_option maxRecDepth 100000 in
set_option maxHeartbeats 1600000 in
theorem ib_new_bad (c : Cf) (st : Int) (w : World) (h : c.ok = false) :
    Calls Try.prog 6 #[c.val, .int .i64 st] w fun e w' => e = .returned (.tuple #[.pointer none, .int .i64 2]) ∧ Below w.heap.size w w' := by
  have HC := Lib.hid (fun W => cf_check c W)
  have hk : c.chk = 2 := by unfold Cf.chk; rw [if_neg (by rw [h]; decide)]
  rw [hk] at HC
  clear h hk
  obtain ⟨a0, a1, a2, a3, a4, a5, a6, a7, a8, a9, a10⟩ := c
  unfold GivesCI Cf.val at *
  dsimp only at *
  obtain ⟨V, HV⟩ : ∃ V, V = w.alloc (.cells #[.int .i64 a0, .int .i64 a1, .int .i64 a2, .int .i64 a3, .int .i64 a4, .int .i64 a5, .int .i64 a6, .int .i64 a7, .int .i64 a8, .int .i64 a9, .int .i64 a10] 23) := ⟨_, rfl⟩
  have X0 := Lib.hid (At.new w 23 [.int .i64 a0, .int .i64 a1, .int .i64 a2, .int .i64 a3, .int .i64 a4, .int .i64 a5, .int .i64 a6, .int .i64 a7, .int .i64 a8, .int .i64 a9, .int .i64 a10])
  have XB : Hid (Below w.heap.size w (w.alloc (.cells #[.int .i64 a0, .int .i64 a1, .int .i64 a2, .int .i64 a3, .int .i64 a4, .int .i64 a5, .int .i64 a6, .int .i64 a7, .int .i64 a8, .int .i64 a9, .int .i64 a10] 23))) := Lib.hid ((Below.refl _ _).alloc (Nat.le_refl _) _)
  rw [← HV] at XB
  have X0 : Hid (At V w.heap.size 23 [.int .i64 a0, .int .i64 a1, .int .i64 a2, .int .i64 a3, .int .i64 a4, .int .i64 a5, .int .i64 a6, .int .i64 a7, .int .i64 a8, .int .i64 a9, .int .i64 a10]) := Lib.hid (by rw [HV]; exact X0.out)
  have KP : Hid (∀ W, Below V.heap.size V W → W.cell? ⟨w.heap.size, 0, none⟩ = some (.int .i64 a0) ∧ W.cell? ⟨w.heap.size, 1, none⟩ = some (.int .i64 a1) ∧ W.cell? ⟨w.heap.size, 2, none⟩ = some (.int .i64 a2) ∧ W.cell? ⟨w.heap.size, 3, none⟩ = some (.int .i64 a3) ∧ W.cell? ⟨w.heap.size, 4, none⟩ = some (.int .i64 a4) ∧ W.cell? ⟨w.heap.size, 5, none⟩ = some (.int .i64 a5) ∧ W.cell? ⟨w.heap.size, 6, none⟩ = some (.int .i64 a6) ∧ W.cell? ⟨w.heap.size, 7, none⟩ = some (.int .i64 a7) ∧ W.cell? ⟨w.heap.size, 8, none⟩ = some (.int .i64 a8) ∧ W.cell? ⟨w.heap.size, 9, none⟩ = some (.int .i64 a9) ∧ W.cell? ⟨w.heap.size, 10, none⟩ = some (.int .i64 a10)) := Lib.hid fun W hW => by
    have d := X0.out.below hW X0.out.lt
    exact ⟨d.cell 0 rfl, d.cell 1 rfl, d.cell 2 rfl, d.cell 3 rfl, d.cell 4 rfl, d.cell 5 rfl, d.cell 6 rfl, d.cell 7 rfl, d.cell 8 rfl, d.cell 9 rfl, d.cell 10 rfl⟩
  obtain ⟨k0, k1, k2, k3, k4, k5, k6, k7, k8, k9, k10⟩ := KP.out V (Below.refl _ _)
  clear KP
  go_enter Try.func6, Try.ntmps6
  go_upto_region 1 with fail
  rw [← HV]; clear HV
  go_wp2_with fail
  refine (HC.out _).mono ?_; rintro e w2 ⟨rfl, g2⟩
  have G2 := Lib.hid (XB.out.trans (g2.mono XB.out.size))
  clear g2
  go_wp2_with fail
  go_ret2
  exact ⟨rfl, G2.out⟩
set_option maxRecDepth 100000 in
set_option maxHeartbeats 1600000 in
theorem ib_new_out (c : Cf) (st : Int) (w : World) (h : c.ok = true) (hs : st < 0 ∨ 256 ≤ st) :
    Calls Try.prog 6 #[c.val, .int .i64 st] w fun e w' => e = .returned (.tuple #[.pointer none, .int .i64 2]) ∧ Below w.heap.size w w' := by
  have HC := Lib.hid (fun W => cf_check c W)
  have hk : c.chk = 0 := by unfold Cf.chk; rw [if_pos h]
  rw [hk] at HC
  have key : st < 0 ∨ (¬ st < 0 ∧ st ≥ 256) := by omega
  clear h hk hs
  obtain ⟨a0, a1, a2, a3, a4, a5, a6, a7, a8, a9, a10⟩ := c
  unfold GivesCI Cf.val at *
  dsimp only at *
  obtain ⟨V, HV⟩ : ∃ V, V = w.alloc (.cells #[.int .i64 a0, .int .i64 a1, .int .i64 a2, .int .i64 a3, .int .i64 a4, .int .i64 a5, .int .i64 a6, .int .i64 a7, .int .i64 a8, .int .i64 a9, .int .i64 a10] 23) := ⟨_, rfl⟩
  have X0 := Lib.hid (At.new w 23 [.int .i64 a0, .int .i64 a1, .int .i64 a2, .int .i64 a3, .int .i64 a4, .int .i64 a5, .int .i64 a6, .int .i64 a7, .int .i64 a8, .int .i64 a9, .int .i64 a10])
  have XB : Hid (Below w.heap.size w (w.alloc (.cells #[.int .i64 a0, .int .i64 a1, .int .i64 a2, .int .i64 a3, .int .i64 a4, .int .i64 a5, .int .i64 a6, .int .i64 a7, .int .i64 a8, .int .i64 a9, .int .i64 a10] 23))) := Lib.hid ((Below.refl _ _).alloc (Nat.le_refl _) _)
  rw [← HV] at XB
  have X0 : Hid (At V w.heap.size 23 [.int .i64 a0, .int .i64 a1, .int .i64 a2, .int .i64 a3, .int .i64 a4, .int .i64 a5, .int .i64 a6, .int .i64 a7, .int .i64 a8, .int .i64 a9, .int .i64 a10]) := Lib.hid (by rw [HV]; exact X0.out)
  have KP : Hid (∀ W, Below V.heap.size V W → W.cell? ⟨w.heap.size, 0, none⟩ = some (.int .i64 a0) ∧ W.cell? ⟨w.heap.size, 1, none⟩ = some (.int .i64 a1) ∧ W.cell? ⟨w.heap.size, 2, none⟩ = some (.int .i64 a2) ∧ W.cell? ⟨w.heap.size, 3, none⟩ = some (.int .i64 a3) ∧ W.cell? ⟨w.heap.size, 4, none⟩ = some (.int .i64 a4) ∧ W.cell? ⟨w.heap.size, 5, none⟩ = some (.int .i64 a5) ∧ W.cell? ⟨w.heap.size, 6, none⟩ = some (.int .i64 a6) ∧ W.cell? ⟨w.heap.size, 7, none⟩ = some (.int .i64 a7) ∧ W.cell? ⟨w.heap.size, 8, none⟩ = some (.int .i64 a8) ∧ W.cell? ⟨w.heap.size, 9, none⟩ = some (.int .i64 a9) ∧ W.cell? ⟨w.heap.size, 10, none⟩ = some (.int .i64 a10)) := Lib.hid fun W hW => by
    have d := X0.out.below hW X0.out.lt
    exact ⟨d.cell 0 rfl, d.cell 1 rfl, d.cell 2 rfl, d.cell 3 rfl, d.cell 4 rfl, d.cell 5 rfl, d.cell 6 rfl, d.cell 7 rfl, d.cell 8 rfl, d.cell 9 rfl, d.cell 10 rfl⟩
  obtain ⟨k0, k1, k2, k3, k4, k5, k6, k7, k8, k9, k10⟩ := KP.out V (Below.refl _ _)
  clear KP
  rcases key with k | ⟨kk1, kk2⟩
  all_goals
    go_enter Try.func6, Try.ntmps6
    go_upto_region 1 with fail
    rw [← HV]; clear HV
    go_wp2_with fail
    refine (HC.out _).mono ?_; rintro e w2 ⟨rfl, g2⟩
    have G2 := Lib.hid (XB.out.trans (g2.mono XB.out.size))
    clear g2
    go_wp2_with fail
    go_ret2
    exact ⟨rfl, G2.out⟩
set_option maxRecDepth 100000 in
set_option maxHeartbeats 3200000 in
theorem ib_new (c : Cf) (st : Int) (w : World) (h : c.ok = true) (h0 : 0 ≤ st) (h1 : st < 256) :
    Calls Try.prog 6 #[c.val, .int .i64 st] w fun e w' => ∃ Y, e = .returned (.tuple #[ibp Y, .int .i64 0]) ∧ Ib w' Y (ibM0 c) ∧ Below w.heap.size w w' ∧ ∀ i, Y.own i → w.heap.size ≤ i := by
  have HC := Lib.hid (fun W => cf_check c W)
  have hk : c.chk = 0 := by unfold Cf.chk; rw [if_pos h]
  rw [hk] at HC
  obtain ⟨_, _, _, ⟨w1, w2⟩, _⟩ := cf_lims h
  obtain ⟨q1, q2⟩ := cf_queue h
  have eq : ((c.q.toNat : Nat) : Int) = c.q := by omega
  have HO := Lib.hid (fun W => or_new_any 0 c.w W ⟨by decide, by decide⟩ w1 w2)
  have HR : Hid (∀ W, Calls Try.prog 28 #[.int .i64 c.q] W fun e w' => e = .returned (.tuple #[.pointer (some ⟨W.heap.size, 0, none⟩), .int .i64 0]) ∧ Rg w' W.heap.size c.q.toNat none S0 ∧ Below W.heap.size W w') := Lib.hid fun W => by
    have q := rg_new_any c.q.toNat W (by omega) (by omega)
    rw [eq] at q
    refine q.mono ?_
    rintro e w' ⟨e1, e2⟩
    rw [e2]
    exact ⟨e1, rg_of_new _ W (by omega), (Below.refl _ _).alloc (Nat.le_refl _) _⟩
  have HI : Hid (IbI (ibM0 c)) := Lib.hid ⟨Nat.le_refl _, by show (0 : Int) ≤ c.w; omega, rfl, (fun x hx => by cases hx), (show U32 0 from ⟨by decide, by decide⟩)⟩
  obtain ⟨cc, hcc⟩ : ∃ cc, cc = ibM0 c := ⟨_, rfl⟩
  have hcn : cc.n = c.w := by rw [hcc]; rfl
  have hcq : cc.q = c.q.toNat := by rw [hcc]; rfl
  have HCC : Hid (cc = ⟨cc.n, cc.q, 0, [], S0, 0, 0, 0, false⟩) := Lib.hid (by rw [hcc]; rfl)
  rw [← hcc] at HI ⊢
  rw [← hcq] at HR
  clear h hk w1 w2 q1 q2 eq hcc hcq
  obtain ⟨a0, a1, a2, a3, a4, a5, a6, a7, a8, a9, a10⟩ := c
  unfold GivesCI Cf.val at *
  dsimp only at *
  have HCN := Lib.hid hcn
  clear hcn
  obtain ⟨V, HV⟩ : ∃ V, V = w.alloc (.cells #[.int .i64 a0, .int .i64 a1, .int .i64 a2, .int .i64 a3, .int .i64 a4, .int .i64 a5, .int .i64 a6, .int .i64 a7, .int .i64 a8, .int .i64 a9, .int .i64 a10] 23) := ⟨_, rfl⟩
  have X0 := Lib.hid (At.new w 23 [.int .i64 a0, .int .i64 a1, .int .i64 a2, .int .i64 a3, .int .i64 a4, .int .i64 a5, .int .i64 a6, .int .i64 a7, .int .i64 a8, .int .i64 a9, .int .i64 a10])
  have XB : Hid (Below w.heap.size w (w.alloc (.cells #[.int .i64 a0, .int .i64 a1, .int .i64 a2, .int .i64 a3, .int .i64 a4, .int .i64 a5, .int .i64 a6, .int .i64 a7, .int .i64 a8, .int .i64 a9, .int .i64 a10] 23))) := Lib.hid ((Below.refl _ _).alloc (Nat.le_refl _) _)
  rw [← HV] at XB
  have X0 : Hid (At V w.heap.size 23 [.int .i64 a0, .int .i64 a1, .int .i64 a2, .int .i64 a3, .int .i64 a4, .int .i64 a5, .int .i64 a6, .int .i64 a7, .int .i64 a8, .int .i64 a9, .int .i64 a10]) := Lib.hid (by rw [HV]; exact X0.out)
  have KP : Hid (∀ W, Below V.heap.size V W → W.cell? ⟨w.heap.size, 0, none⟩ = some (.int .i64 a0) ∧ W.cell? ⟨w.heap.size, 1, none⟩ = some (.int .i64 a1) ∧ W.cell? ⟨w.heap.size, 2, none⟩ = some (.int .i64 a2) ∧ W.cell? ⟨w.heap.size, 3, none⟩ = some (.int .i64 a3) ∧ W.cell? ⟨w.heap.size, 4, none⟩ = some (.int .i64 a4) ∧ W.cell? ⟨w.heap.size, 5, none⟩ = some (.int .i64 a5) ∧ W.cell? ⟨w.heap.size, 6, none⟩ = some (.int .i64 a6) ∧ W.cell? ⟨w.heap.size, 7, none⟩ = some (.int .i64 a7) ∧ W.cell? ⟨w.heap.size, 8, none⟩ = some (.int .i64 a8) ∧ W.cell? ⟨w.heap.size, 9, none⟩ = some (.int .i64 a9) ∧ W.cell? ⟨w.heap.size, 10, none⟩ = some (.int .i64 a10)) := Lib.hid fun W hW => by
    have d := X0.out.below hW X0.out.lt
    exact ⟨d.cell 0 rfl, d.cell 1 rfl, d.cell 2 rfl, d.cell 3 rfl, d.cell 4 rfl, d.cell 5 rfl, d.cell 6 rfl, d.cell 7 rfl, d.cell 8 rfl, d.cell 9 rfl, d.cell 10 rfl⟩
  obtain ⟨k0, k1, k2, k3, k4, k5, k6, k7, k8, k9, k10⟩ := KP.out V (Below.refl _ _)
  go_enter Try.func6, Try.ntmps6
  go_upto_region 1 with fail
  rw [← HV]; clear HV
  go_wp2_with fail
  refine (HC.out _).mono ?_; rintro e w2 ⟨rfl, g2⟩
  have Q2 := Lib.hid g2
  clear g2 k0 k1 k2 k3 k4 k5 k6 k7 k8 k9 k10
  obtain ⟨k0, k1, k2, k3, k4, k5, k6, k7, k8, k9, k10⟩ := KP.out _ Q2.out
  go_wp2_with fail
  refine (HO.out _).mono ?_; rintro e w3 ⟨rfl, ho, g3⟩
  have Q3 := Lib.hid (Q2.out.trans (g3.mono Q2.out.size))
  have HO3 := Lib.hid ho
  have S3 := Lib.hid g3.size
  clear ho g3 k0 k1 k2 k3 k4 k5 k6 k7 k8 k9 k10
  obtain ⟨k0, k1, k2, k3, k4, k5, k6, k7, k8, k9, k10⟩ := KP.out _ Q3.out
  go_wp2_with fail
  refine (HR.out _).mono ?_; rintro e w4 ⟨rfl, hr, g4⟩
  have Q4 := Lib.hid (Q3.out.trans (g4.mono Q3.out.size))
  have HO4 := Lib.hid (HO3.out.below g4)
  have HR4 := Lib.hid hr
  have S4 := Lib.hid g4.size
  clear hr g4 k0 k1 k2 k3 k4 k5 k6 k7 k8 k9 k10 HO3
  obtain ⟨k0, k1, k2, k3, k4, k5, k6, k7, k8, k9, k10⟩ := KP.out _ Q4.out
  go_wp2_with fail
  go_ret2
  have hB := (Below.refl w4.heap.size w4).alloc (Nat.le_refl _) (.cells #[.int .i64 a3, .pointer (some ⟨w2.heap.size, 0, none⟩), .pointer (some ⟨w3.heap.size, 0, none⟩), .int .u32 0, .int .i64 0, .int .u32 0, .bool false] 69)
  have x1 := XB.out.size
  have x2 := Q2.out.size
  have x3 := Q3.out.size
  have x4 := Q4.out.size
  have hI := HI.out
  refine ⟨⟨w4.heap.size, w2.heap.size, none, .slice none 0 0, w3.heap.size, none⟩, rfl, ⟨?_, hI⟩, (XB.out.trans (Q4.out.mono XB.out.size)).alloc (by omega) _, ?_⟩
  · rw [HCC.out, HCN.out]
    refine ⟨At.new w4 69 [.int .i64 a3, .pointer (some ⟨w2.heap.size, 0, none⟩), .pointer (some ⟨w3.heap.size, 0, none⟩), .int .u32 0, .int .i64 0, .int .u32 0, .bool false], HO4.out.below hB, HR4.out.below hB⟩
  · rintro i (e | (e | e) | e | e)
    · have e : i = w4.heap.size := e
      omega
    · have e : i = w2.heap.size := e
      omega
    · cases e
    · have e : i = w3.heap.size := e
      omega
    · cases e
end Go.Proofs.Ytedecminaopgaaa

/- Proved: what each function of package inbound answers of none. Conditions: those that the theorems name. -/
namespace Go.Proofs.Ytedecminaopgaaa
open Go.ChangeShapes Go.WideShapes Go.ChangeAt Go.RowKit

theorem ib_saw_nil (x : Int) (w : World) : Calls Try.prog 22 #[.pointer none, .int .u32 x] w fun e w' => e = .returned (.int .i64 0) ∧ w = w' := by
  go_enter Try.func22, Try.ntmps22
  go_wp2_with fail
  go_ret
  exact ⟨rfl, rfl⟩
theorem ib_put_nil (x : Int) (s : ByteArray) (w : World) : Calls Try.prog 23 #[.pointer none, .int .u32 x, .string s] w fun e w' => e = .returned (.int .i64 0) ∧ w = w' := by
  go_enter Try.func23, Try.ntmps23
  go_wp2_with fail
  go_ret
  exact ⟨rfl, rfl⟩
theorem ib_fin_nil (x : Int) (w : World) : Calls Try.prog 24 #[.pointer none, .int .u32 x] w fun e w' => e = .returned (.int .i64 17) ∧ w = w' := by
  go_enter Try.func24, Try.ntmps24
  go_wp2_with fail
  go_ret
  exact ⟨rfl, rfl⟩
theorem ib_deliver_nil (w : World) : Calls Try.prog 25 #[.pointer none] w fun e w' => e = .returned (.int .i64 0) ∧ w = w' := by
  go_enter Try.func25, Try.ntmps25
  go_wp2_with fail
  go_ret
  exact ⟨rfl, rfl⟩
theorem ib_read_nil (z : Int) (w : World) : Calls Try.prog 20 #[.pointer none, .int .i64 z] w fun e w' => e = .returned (.tuple #[.string { data := #[] }, .int .i64 17]) ∧ w = w' := by
  go_enter Try.func20, Try.ntmps20
  go_wp2_with fail
  go_ret2
  exact ⟨rfl, rfl⟩
theorem ib_ack_nil (w : World) : Calls Try.prog 11 #[.pointer none] w fun e w' => e = .returned (.tuple #[.int .u32 0, .int .i64 0]) ∧ w = w' := by
  go_enter Try.func11, Try.ntmps11
  go_wp2_with fail
  go_ret2
  exact ⟨rfl, rfl⟩
theorem ib_lacks_nil (w : World) : Calls Try.prog 16 #[.pointer none] w fun e w' => e = .returned (.slice none 0 0) ∧ w = w' := by
  go_enter Try.func16, Try.ntmps16
  go_wp2_with fail
  go_ret
  exact ⟨rfl, rfl⟩
theorem ib_held_nil (w : World) : Calls Try.prog 18 #[.pointer none] w fun e w' => e = .returned (.int .i64 0) ∧ w = w' := by
  go_enter Try.func18, Try.ntmps18
  go_wp2_with fail
  go_ret
  exact ⟨rfl, rfl⟩
theorem ib_ended_nil (w : World) : Calls Try.prog 13 #[.pointer none] w fun e w' => e = .returned (.bool false) ∧ ∃ q, w' = w.drewN q := by
  go_enter Try.func13, Try.ntmps13
  go_wp2_with fail
  go_quiet (fail)
  go_wp2_with fail
  go_ret
  exact ⟨rfl, _, rfl⟩
end Go.Proofs.Ytedecminaopgaaa

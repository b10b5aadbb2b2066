/- Proved: the walk of the law on what is taken. Conditions: those that the theorems name. -/
import Derived.Test.YtplbdeaoeocgkaaDrAwake
import Derived.Test.YtplbdeaoeocgkaaDrInt
namespace Go.Proofs.Ytplbdeaoeocgkaa
open Go.ChangeShapes Go.WideShapes Go.ChangeAt Go.RowKit

def nW : Nat → List (Int × Int)
  | 0 => []
  | k + 1 => nW k ++ [((k : Int), (k : Int) + 1)]
theorem nW_add (k : Nat) (h : k < 3) : addW (nW k) (k : Int) ((k : Int) + 1) = nW (k + 1) := by
  match k, h with
  | 0, _ => rfl
  | 1, _ => rfl
  | 2, _ => rfl
theorem nW_in {i : Int} (h : inW (nW 3) i = true) : 0 ≤ i ∧ i < 3 := by
  obtain ⟨wt, h⟩ := inW_iff.1 h
  simp [nW] at h
  omega
theorem nW_has {i : Int} (h : 0 ≤ i ∧ i < 3) : inW (nW 3) i = true := by
  have : i = 0 ∨ i = 1 ∨ i = 2 := by omega
  rcases this with rfl | rfl | rfl <;> rfl
/-- the sizes of a queue's items. -/
def szR (R : List Qd) (i : Nat) : List Int := (itR R (i : Int)).map (·.2)
theorem szR_len (R : List Qd) (i : Nat) : (szR R i).length = lenR R (i : Int) := by unfold szR; rw [List.length_map, lenR_it]
/-- a scheduler and two arrays of rows. -/
def NS (w : World) (b bi bo : Nat) (wr : World) (W : List (Int × Int)) (R : List Qd) (f f1 : Nat → List Int) : Prop :=
  ∃ L kl, (∀ j, wr.heap.size ≤ j → kl j = 9) ∧ SB w wr b L 5 65536 W R ∧ A3 wr L kl w.heap.size 0 bi f ∧ A3 wr L kl w.heap.size 3 bo f1
/-- what has come in, behind so many rounds. -/
def N2 (w : World) (b bi bo m : Nat) (i : Value) (wr : World) : Prop := ∃ k : Nat, k ≤ m ∧ i = .int .i64 k ∧ ∃ R, waitR R = k ∧ NS w b bi bo wr (nW 3) R (szR R) (fun _ => [])
/-- what was taken, behind so many rounds. -/
def N3 (w : World) (b bi bo k : Nat) (R : List Qd) (i : Value) (wr : World) : Prop := ∃ j : Nat, j ≤ k ∧ i = .int .i64 j ∧ ∃ R' fo, waitR R' + j = k ∧ (∀ i, i < 3 → szR R i = fo i ++ szR R' i) ∧ NS w b bi bo wr (nW 3) R' (szR R) fo
/-- what is compared at last. -/
def N4 (w : World) (b bi bo : Nat) (G : Nat → List Int) (i : Value) (wr : World) : Prop := ∃ j : Nat, j ≤ 3 ∧ i = .int .i64 j ∧ ∃ fo, (∀ i, i < 3 → fo i = G i) ∧ NS w b bi bo wr (nW 3) [] G fo
def N5 (w0 : World) (n : Nat) (i : Value) (wr : World) : Prop := ∃ j : Nat, j ≤ n ∧ i = .int .i64 j ∧ Below w0.heap.size w0 wr
theorem NS.below {w : World} {b bi bo : Nat} {wr w' : World} {W : List (Int × Int)} {R : List Qd} {f f1 : Nat → List Int} (h : NS w b bi bo wr W R f f1) (k : Below wr.heap.size wr w') : NS w b bi bo w' W R f f1 := by
  obtain ⟨L, kl, h1, h2, h3, h4⟩ := h
  exact ⟨L, kl, fun j hj => h1 j (Nat.le_trans k.size hj), h2.below k, h3.step (Fr.below L k), h4.step (Fr.below L k)⟩
theorem A3.new {w : World} {L : Ly} {B k0 : Nat} (hB : B ≤ w.heap.size) (hc : L.col w.heap.size = -1) : A3 (w.alloc (.cells #[.slice none 0 0, .slice none 0 0, .slice none 0 0] 51)) L (fun _ => 9) B k0 w.heap.size (fun _ => []) :=
  ⟨hc, rfl, hB, fun _ => .slice none 0 0, At.new w _ _, fun _ _ => Zr.nil _ _⟩
theorem n_push {R : List Qd} {i q k : Nat} (o : Ok 5 65536 (nW 3) R) (hi : i < 3) (hq : q ≤ 85) (hk : k ≤ 120) (hw : waitR R = k) :
    pushE (nW 3) R ((i : Int), (q : Int) + 1) = 0 ∧ waitR (push (nW 3) R ((i : Int), (q : Int) + 1)) = k + 1 ∧ szR (push (nW 3) R ((i : Int), (q : Int) + 1)) = setF (szR R) i (szR R i ++ [(q : Int) + 1]) := by
  have h1 : pushE (nW 3) R ((i : Int), (q : Int) + 1) = 0 := by
    unfold pushE
    rw [if_neg (by rw [nW_has (by omega)]; decide), if_neg (by show ¬ ((q : Int) + 1 < 1 ∨ 65536 < (q : Int) + 1); omega), if_neg]
    have := lenR_wait o (i : Int)
    show ¬ lenR R (i : Int) = 65536
    omega
  refine ⟨h1, by rw [waitR_push o h1, hw], funext fun j => ?_⟩
  unfold setF
  show (itR (push (nW 3) R ((i : Int), (q : Int) + 1)) (j : Int)).map (·.2) = _
  rw [itR_push o (by decide) h1 (by show (q : Int) + 1 ≤ 65536; omega)]
  show (if (j : Int) = (i : Int) then itR R (j : Int) ++ [((i : Int), (q : Int) + 1)] else itR R (j : Int)).map (·.2) = _
  by_cases e : j = i
  · subst e
    rw [if_pos rfl, if_pos rfl, List.map_append]; rfl
  · rw [if_neg (by omega), if_neg e]; rfl
set_option maxRecDepth 100000 in
set_option maxHeartbeats 6400000 in
theorem dr_none_main (A : Option Addr) (m c : Nat) (l : List Nat) (w : World) (hm : (m : Int) ≤ 120) (hl : Bs w A m l) :
    Calls Try.prog 5 #[.slice A m c] w fun e w' => e = .returned (.bool true) ∧ Below w.heap.size w w' := by
  have HL := Lib.hid hl
  clear hl
  go_enter Try.func5, Try.ntmps5
  go_wp2_with fail
  refine (dr_next_nil _).mono ?_; rintro e w1 ⟨rfl, b1⟩
  have B1 := Lib.hid (b1.alloc b1.size (.cells #[.int .i64 0, .int .i64 0] 35))
  clear b1
  go_wp2_with fail
  generalize w1.alloc (.cells #[.int .i64 0, .int .i64 0] 35) = w2 at *
  refine (dr_add_nil 1 1 _).mono ?_; rintro e w3 ⟨rfl, rfl⟩
  go_wp2_with fail
  refine (dr_remove_nil 1 _).mono ?_; rintro e w3 ⟨rfl, rfl⟩
  go_wp2_with fail
  refine (dr_push_nil (1, 1) _).mono ?_; rintro e w3 ⟨rfl, b3⟩
  have B3 := Lib.hid (B1.out.trans (b3.mono B1.out.size))
  clear b3 B1
  go_wp2_with fail
  refine (dr_len_nil 1 _).mono ?_; rintro e w4 ⟨rfl, rfl⟩
  go_wp2_with fail
  refine (dr_waiting_nil _).mono ?_; rintro e w4 ⟨rfl, rfl⟩
  go_wp2_with fail
  refine (sb_new B3.out 5 65536 (by decide) (by decide)).mono ?_; rintro e w4 ⟨b, L4, rfl, r4, _, _⟩
  have R4 := Lib.hid r4
  clear r4 B3
  go_wp2_with fail
  have HNS : Hid (NS w b w4.heap.size (w4.heap.size + 1) ((w4.alloc (.cells #[.slice none 0 0, .slice none 0 0, .slice none 0 0] 51)).alloc (.cells #[.slice none 0 0, .slice none 0 0, .slice none 0 0] 51)) (nW 0) [] (fun _ => []) (fun _ => [])) := Lib.hid (by
    have h1 : A3 _ L4 (fun _ => 9) w.heap.size 0 w4.heap.size (fun _ => []) := A3.new R4.out.bel.size R4.out.new
    have r5 := R4.out.alloc (.cells #[.slice none 0 0, .slice none 0 0, .slice none 0 0] 51)
    have h2 : A3 _ L4 (fun _ => 9) w.heap.size 3 _ (fun _ => []) := A3.new r5.bel.size r5.new
    rw [show (w4.alloc (.cells #[.slice none 0 0, .slice none 0 0, .slice none 0 0] 51)).heap.size = w4.heap.size + 1 by simp] at h2
    exact ⟨L4, _, fun _ _ => rfl, r5.alloc _, h1.step (Fr.below L4 ((Below.refl _ _).alloc (Nat.le_refl _) _)), h2⟩)
  clear R4
  have HNE : Hid (w4.heap.size + 1 ≠ w4.heap.size) := Lib.hid (by omega)
  generalize w4.heap.size + 1 = bo at *
  generalize w4.heap.size = bi at *
  go_loopw [10] (fun i wr => ∃ k : Nat, k ≤ 3 ∧ i = .int .i64 k ∧ NS w b bi bo wr (nW k) [] (fun _ => []) (fun _ => [])) (fun i _ => 3 - (intOf i).toNat)
  case atStart => exact ⟨0, by omega, rfl, HNS.out⟩
  case round =>
    obtain ⟨k, hk, rfl, L, kl, hkl, r, a, a1⟩ := hrel
    have HKL := Lib.hid hkl
    clear hkl
    have R5 := Lib.hid r
    have A5 := Lib.hid a
    have A6 := Lib.hid a1
    clear r a a1 HNS
    by_cases hlt : k < 3
    · have hlt' : (k : Int) < 3 := by omega
      have hk0 : (0 : Int) ≤ (k : Int) := Int.natCast_nonneg _
      have HAD := Lib.hid (sb_add_as R5.out (id := (k : Int)) (i64s _ (by omega) (by omega)) ((k : Int) + 1) rfl (nW_add k hlt))
      go_wp2_with fail
      refine HAD.out.mono ?_; rintro e w6 ⟨rfl, L6, r6, f6⟩
      have HN6 : Hid (NS w b bi bo w6 (nW (k + 1)) [] (fun _ => []) (fun _ => [])) := Lib.hid ⟨L6, kl, fun j hj => HKL.out j (Nat.le_trans f6.tn.size hj), r6, A5.out.step f6, A6.out.step f6⟩
      clear r6 f6 R5 A5 A6 HAD
      go_wp2_with fail
      go_roundw
      case rel => exact ⟨k + 1, by omega, by go_num, HN6.out⟩
      case measure => simp [intOf]; omega
    · obtain rfl : k = 3 := by omega
      have e3 : ((3 : Nat) : Int) = 3 := rfl
      rw [e3]
      clear e3
      have HN5 : Hid (NS w b bi bo wr (nW 3) [] (szR []) (fun _ => [])) := Lib.hid ⟨L, kl, HKL.out, R5.out, A5.out, A6.out⟩
      clear R5 A5 A6 hk hlt
      go_wp2_with fail
      go_loopw [11] (fun i wr => N2 w b bi bo m i wr) (fun i _ => m - (intOf i).toNat)
      case atStart => exact ⟨0, by omega, rfl, [], rfl, HN5.out⟩
      case round =>
        obtain ⟨k, hk, rfl, R, hwt, L, kl, hkl, r, a, a1⟩ := hrel
        have HKL := Lib.hid hkl
        clear hkl
        have R5 := Lib.hid r
        have A5 := Lib.hid a
        have A6 := Lib.hid a1
        have HWT := Lib.hid hwt
        clear r a a1 hwt HN5
        by_cases hlt : k < m
        · obtain ⟨ad, rfl, had, hac⟩ := HL.out.at_ hlt
          have hac' : wr.cell? (ad.add k) = some (.int .u8 (l.getD k 0 : Nat)) := (R5.out.bel.cell (by rw [add_block]; exact had)).trans hac
          have hv := HL.out.lt k
          clear hac
          generalize l.getD k 0 = v at *
          obtain ⟨i, hi⟩ : ∃ i : Nat, i = v % 3 := ⟨_, rfl⟩
          obtain ⟨q, hq⟩ : ∃ q : Nat, q = v / 3 := ⟨_, rfl⟩
          have hi1 : (v : Int) % 3 = (i : Int) := by omega
          have hq1 : (v : Int) / 3 = (q : Int) := by omega
          have hi3 : i < 3 := by omega
          have hq85 : q ≤ 85 := by omega
          have HIQ := Lib.hid (And.intro hi3 hq85)
          have hlt' : (k : Int) < (m : Int) := by omega
          have hk0 : (0 : Int) ≤ (k : Int) := Int.natCast_nonneg _
          have hq0 : (0 : Int) ≤ (q : Int) := Int.natCast_nonneg _
          have hq2 : (q : Int) ≤ 85 := by omega
          have hi0 : (0 : Int) ≤ (i : Int) := Int.natCast_nonneg _
          have hi2 : (i : Int) < 3 := by omega
          have hv1 : (v : Int) ≤ 255 := by omega
          have hv0 : (0 : Int) ≤ (v : Int) := Int.natCast_nonneg _
          clear hi hq hv hi3 hq85
          go_wp2_with fail
          go_quiet (fail)
          go_wp2_with fail
          have hdr : Below wr.heap.size wr (wr.drewN nq) := (Below.refl _ _).grown (grown_drewN wr nq none) (Nat.le_refl _) (by simp)
          have R6 := Lib.hid (R5.out.below hdr)
          have A7 := Lib.hid (A5.out.step (Fr.below L hdr))
          have A8 := Lib.hid (A6.out.step (Fr.below L hdr))
          have hnp := n_push R5.out.ok HIQ.out.1 HIQ.out.2 (by omega) HWT.out
          have HNP := Lib.hid hnp
          have HSZ6 : Hid (wr.heap.size ≤ (wr.drewN nq).heap.size) := Lib.hid hdr.size
          clear R5 A5 A6 hac' hdr hnp
          generalize wr.drewN nq = w6 at *
          refine (sb_push_as R6.out ((i : Int), (q : Int) + 1) (by show I64 (i : Int); exact i64s _ (by omega) (by omega)) (by decide) (by show (q : Int) + 1 ≤ 65536; omega) HNP.out.1 rfl).mono ?_; rintro e w7 ⟨rfl, L7, r7, f7⟩
          have hal : Below w7.heap.size w7 (w7.alloc (.cells #[.int .i64 ((q : Int) + 1)] 3)) := (Below.refl _ _).alloc (Nat.le_refl _) _
          have a7 := A7.out.step f7
          have HA7 := Lib.hid a7
          obtain ⟨v, w8, g, cap, hc, ⟨A9, c9, hv9⟩, hr, hc8, hf8, ht8, r9, kl9, hkl9, a9, a10⟩ := sb_put (r7.below hal) (a7.step (Fr.below L7 hal)) ((A8.out.step f7).step (Fr.below L7 hal)) HNE.out HIQ.out.1 (by decide) (by omega) (by omega) (by
            rw [szR_len]
            have := lenR_wait R6.out.ok (i : Int)
            have := HWT.out
            omega) (fun j hj => HKL.out j (Nat.le_trans (Nat.le_trans HSZ6.out f7.tn.size) (Nat.le_trans hal.size hj))) ((q : Int) + 1) ⟨w7.heap.size, 0, none⟩ (by exact (At.new w7 3 [.int .i64 ((q : Int) + 1)]).cell 0 rfl) 1 29
          subst hv9
          have hc7 : w7.cell? ⟨bi, i, none⟩ = some (.slice A9 (szR R i).length c9) := (World.cell?_of_block (a := ⟨bi, i, none⟩) (hal.block bi HA7.out.lt)).symm.trans hc
          have hnew : NS w b bi bo (w8.setCell ⟨bi, i, none⟩ (.slice (some ⟨g, 0, none⟩) ((szR R i).length + 1) cap)) (nW 3) (push (nW 3) R ((i : Int), (q : Int) + 1)) (szR (push (nW 3) R ((i : Int), (q : Int) + 1))) (fun _ => []) := ⟨L7, kl9, fun j hj => hkl9 j (by simpa [World.setCell] using hj), r9, by rw [HNP.out.2.2]; exact a9, a10⟩
          have HNEW := Lib.hid hnew
          clear hkl9 hal a7 HA7 hnew r7 f7 r9 a9 a10 ht8 R6 A7 A8
          generalize (szR R i).length = z at *
          go_wp2_with (at_builtin; refine Lib.wpList_append_run _ rfl _ _ _ _ rfl _ _ rfl rfl _ _ hr ?_)
          go_roundw
          case rel => exact ⟨k + 1, by omega, by go_num, _, HNP.out.2.1, HNEW.out⟩
          case measure => simp [intOf]; omega
        · obtain rfl : k = m := by omega
          have HRW : Hid (∀ id, lenR R id ≤ waitR R) := Lib.hid fun id => lenR_wait R5.out.ok id
          have HN6 : Hid (NS w b bi bo wr (nW 3) R (szR R) (fun _ => [])) := Lib.hid ⟨L, kl, HKL.out, R5.out, A5.out, A6.out⟩
          clear R5 A5 A6 hk hlt
          go_wp2_with fail
          go_loopw [14] (fun i wr => N3 w b bi bo k R i wr) (fun i _ => k - (intOf i).toNat)
          case atStart => exact ⟨0, by omega, rfl, R, _, by rw [HWT.out]; rfl, fun _ _ => rfl, HN6.out⟩
          case round =>
            obtain ⟨j, hj, rfl, R', fo, hw', hsz, L, kl, hkl, r, a, a1⟩ := hrel
            have HKL := Lib.hid hkl
            clear hkl
            have R5 := Lib.hid r
            have A5 := Lib.hid a
            have A6 := Lib.hid a1
            have HW' := Lib.hid hw'
            have HSZ := Lib.hid hsz
            clear r a a1 hw' hsz HN6
            by_cases hlt : j < k
            · have hlt' : (j : Int) < (k : Int) := by omega
              have hj0 : (0 : Int) ≤ (j : Int) := Int.natCast_nonneg _
              have hne : R' ≠ [] := fun e => by have := HW'.out; rw [e] at this; have e0 : waitR [] = 0 := rfl; omega
              have HNX := Lib.hid (sb_next R5.out hne)
              clear hne
              go_wp2_with fail
              refine HNX.out.mono ?_; rintro e w6 ⟨x, S, rfl, hg, L6, r6, f6⟩
              have hit := hg.items R5.out.ok
              have hin := nW_in hit.2.2.1
              obtain ⟨i, hi⟩ : ∃ i : Nat, x.1 = (i : Int) := ⟨x.1.toNat, by omega⟩
              have hi0 : (0 : Int) ≤ (i : Int) := Int.natCast_nonneg _
              have hi2 : (i : Int) < 3 := by omega
              have hi3 : i < 3 := by omega
              have HI3 := Lib.hid hi3
              have R6 := Lib.hid (r6.alloc (.cells #[.int .i64 x.1, .int .i64 x.2] 35))
              have hal : Below w6.heap.size w6 (w6.alloc (.cells #[.int .i64 x.1, .int .i64 x.2] 35)) := (Below.refl _ _).alloc (Nat.le_refl _) _
              have A7 := Lib.hid ((A5.out.step f6).step (Fr.below L6 hal))
              have A8 := Lib.hid ((A6.out.step f6).step (Fr.below L6 hal))
              have HX := Lib.hid (At.new w6 35 [.int .i64 x.1, .int .i64 x.2])
              have HIT := Lib.hid hit
              have HI := Lib.hid hi
              have x0 := HX.out.cell 0 rfl
              have x1 := HX.out.cell 1 rfl
              have HF6 := Lib.hid f6
              clear hit hin r6 f6 hal R5 A5 A6 HNX hg hi3
              obtain ⟨xi, xz⟩ := x
              dsimp only at *
              subst hi
              have HSZ6 : Hid (wr.heap.size ≤ w6.heap.size) := Lib.hid HF6.out.tn.size
              have HXB : Hid (w6.heap.size < (w6.alloc (.cells #[.int .i64 (i : Int), .int .i64 xz] 35)).heap.size) := Lib.hid (by simp)
              go_wp2_with fail
              have HKB : Hid (kl w6.heap.size = 9) := Lib.hid (HKL.out _ HSZ6.out)
              have HKX : Hid (∀ j, (w6.alloc (.cells #[.int .i64 (i : Int), .int .i64 xz] 35)).heap.size ≤ j → kl j = 9) := Lib.hid fun j hj => HKL.out j (by have := HSZ6.out; have := HXB.out; omega)
              generalize w6.heap.size = bx at *
              generalize w6.alloc (.cells #[.int .i64 (i : Int), .int .i64 xz] 35) = w7 at *
              have hal : Below w7.heap.size w7 (w7.alloc (.cells #[.int .i64 xz] 3)).drew := ((Below.refl _ _).alloc (Nat.le_refl _) _).drew
              obtain ⟨v, w8, g, cap, hc, ⟨A9, c9, hv9⟩, hr, hc8, hf8, ht8, r9, kl9, hkl9, a9, a10⟩ := sb_put (R6.out.below hal) (A8.out.step (Fr.below L6 hal)) (A7.out.step (Fr.below L6 hal)) HNE.out.symm HI3.out (by decide) (by omega) (by omega) (by
                have h1 := congrArg List.length (HSZ.out i HI3.out)
                rw [List.length_append, szR_len, szR_len] at h1
                have h2 := HRW.out (i : Int)
                have h3 := HWT.out
                omega) (fun j hj => HKX.out j (Nat.le_trans hal.size hj)) xz ⟨w7.heap.size, 0, none⟩ (by exact (At.new w7 3 [.int .i64 xz]).cell 0 rfl) 1 29
              subst hv9
              have hc7 : w7.cell? ⟨bo, i, none⟩ = some (.slice A9 (fo i).length c9) := (World.cell?_of_block (a := ⟨bo, i, none⟩) (hal.block bo A8.out.lt)).symm.trans hc
              have hxY := HX.out.below hal HX.out.lt
              have hx8 := hxY.tn ht8 (fun e => by have := e.2.1; rw [HKB.out] at this; omega)
              have y0 := hxY.cell 0 rfl
              have y1 := hxY.cell 1 rfl
              have z0 := hx8.cell 0 rfl
              have z1 := hx8.cell 1 rfl
              have hszn : ∀ i', i' < 3 → szR R i' = setF fo i (fo i ++ [xz]) i' ++ szR S i' := fun i' h' => by
                rw [HSZ.out i' h']
                have e1 : szR R' i' = if i' = i then xz :: szR S i' else szR S i' := by
                  unfold szR
                  rw [HIT.out.1 (i' : Int)]
                  by_cases e : i' = i
                  · subst e; rw [if_pos rfl, if_pos rfl, List.map_cons]
                  · rw [if_neg (by omega), if_neg e]
                rw [e1]
                unfold setF
                by_cases e : i' = i
                · subst e; rw [if_pos rfl, if_pos rfl]; simp
                · rw [if_neg e, if_neg e]
              have hnew : waitR S + (j + 1) = k ∧ (∀ i', i' < 3 → szR R i' = setF fo i (fo i ++ [xz]) i' ++ szR S i') ∧ NS w b bi bo (w8.setCell ⟨bo, i, none⟩ (.slice (some ⟨g, 0, none⟩) ((fo i).length + 1) cap)) (nW 3) S (szR R) (setF fo i (fo i ++ [xz])) := ⟨by have h1 := HIT.out.2.1; have h2 := HW'.out; omega, hszn, L6, kl9, fun j hj => hkl9 j (by simpa [World.setCell] using hj), r9, a10, a9⟩
              have HNEW := Lib.hid hnew
              clear hal hnew r9 a9 a10 ht8 R6 A7 A8 hkl9 hxY hx8 hszn
              generalize (fo i).length = z at *
              go_region_law (refine step_append_run rfl _ _ _ _ rfl _ _ rfl rfl _ _ hr ?_)
              all_goals
                go_wp2_with fail
                go_roundw
                case rel => exact ⟨j + 1, by omega, by go_num, S, _, HNEW.out⟩
                case measure => simp [intOf]; omega
            · obtain rfl : j = k := by omega
              have hR0 : R' = [] := waitR_zero R5.out.ok (by have := HW'.out; omega)
              subst hR0
              have HN7 : Hid (N4 w b bi bo (szR R) (.int .i64 ((0 : Nat) : Int)) wr) := Lib.hid ⟨0, by omega, rfl, fo, fun i hi => by rw [HSZ.out i hi]; exact (List.append_nil _).symm, L, kl, HKL.out, R5.out, A5.out, A6.out⟩
              have HGL : Hid (∀ i, (szR R i).length ≤ 120) := Lib.hid fun i => by
                have h1 := szR_len R i
                have h2 := HRW.out (i : Int)
                have h3 := HWT.out
                omega
              clear R5 A5 A6 hlt hj HW' HSZ
              go_wp2_with fail
              generalize szR R = G at *
              go_loopw [17] (fun i wr => N4 w b bi bo G i wr) (fun i _ => 3 - (intOf i).toNat)
              case atStart => exact HN7.out
              case round =>
                obtain ⟨i, hi, rfl, fo', hfo, hns⟩ := hrel
                have HFO := Lib.hid hfo
                have HNS := Lib.hid hns
                clear hfo hns HN7
                by_cases hlt : i < 3
                · obtain ⟨L', kl', _, r, a, a1⟩ := HNS.out
                  obtain ⟨vi, hci, hzi⟩ := a.get hlt
                  obtain ⟨vo, hco, hzo⟩ := a1.get hlt
                  rw [HFO.out i hlt] at hzo
                  obtain ⟨Ai, ci, rfl⟩ := hzi.len
                  obtain ⟨Ao, co, rfl⟩ := hzo.len
                  have hgl := HGL.out i
                  have HZI := Lib.hid hzi
                  have HZO := Lib.hid hzo
                  have HCI := Lib.hid hci
                  have HCO := Lib.hid hco
                  have HBI : Hid (bi < wr.heap.size) := Lib.hid a.lt
                  have HBO : Hid (bo < wr.heap.size) := Lib.hid a1.lt
                  have hlt' : (i : Int) < 3 := by omega
                  have hi0 : (0 : Int) ≤ (i : Int) := Int.natCast_nonneg _
                  clear r a a1 hzi hzo
                  generalize hGi : G i = Gi at *
                  generalize hn : Gi.length = n at *
                  have HN := Lib.hid hn
                  clear hn hGi
                  go_wp2_with fail
                  go_quiet (fail)
                  have HB0 : Hid (Below wr.heap.size wr (wr.drewN nq)) := Lib.hid ((Below.refl _ _).grown (grown_drewN wr nq none) (Nat.le_refl _) (by simp))
                  generalize wr.drewN nq = w6 at *
                  clear hci hco
                  generalize wr = W0 at *
                  go_wp2_with fail
                  go_loopw [18] (fun i wq => N5 W0 n i wq) (fun i _ => n - (intOf i).toNat)
                  case atStart => exact ⟨0, by omega, rfl, HB0.out⟩
                  case round =>
                    obtain ⟨j, hj, rfl, hbq⟩ := hrel
                    have hci := (hbq.cell (p := ⟨bi, i, none⟩) HBI.out).trans HCI.out
                    have hco := (hbq.cell (p := ⟨bo, i, none⟩) HBO.out).trans HCO.out
                    have HBQ := Lib.hid hbq
                    clear HB0
                    by_cases hjn : j < n
                    · obtain ⟨gi, cpi, ei, _, hgil, _, hxi⟩ := HZI.out.form (by rw [HN.out]; omega)
                      obtain ⟨go_, cpo, eo, _, hgol, _, hxo⟩ := HZO.out.form (by rw [HN.out]; omega)
                      have hai : Ai = some ⟨gi, 0, none⟩ := by injection ei
                      have hao : Ao = some ⟨go_, 0, none⟩ := by injection eo
                      have hyi := (hbq.cell (p := ⟨gi, j, none⟩) hgil).trans (hxi j (by rw [HN.out]; exact hjn))
                      have hyo := (hbq.cell (p := ⟨go_, j, none⟩) hgol).trans (hxo j (by rw [HN.out]; exact hjn))
                      have hjn' : (j : Int) < (n : Int) := by omega
                      have hj0 : (0 : Int) ≤ (j : Int) := Int.natCast_nonneg _
                      clear ei eo hxi hxo hbq
                      subst hai
                      subst hao
                      generalize Gi.getD j 0 = y at *
                      go_wp2_with fail
                      go_quiet (fail)
                      have HB1 : Hid (Below W0.heap.size W0 (wr.drewN nq)) := Lib.hid (HBQ.out.grown (grown_drewN wr nq none) HBQ.out.size (by simp))
                      clear hci hco hyi hyo
                      generalize wr.drewN nq = w7 at *
                      go_wp2_with fail
                      go_roundw
                      case rel => exact ⟨j + 1, by omega, by go_num, HB1.out⟩
                      case measure => simp [intOf]; omega
                    · obtain rfl : j = n := by omega
                      clear hbq
                      go_wp2_with fail
                      go_roundw
                      case rel => exact ⟨i + 1, by omega, by go_num, fo', HFO.out, HNS.out.below HBQ.out⟩
                      case measure => simp [intOf]; omega
                · obtain rfl : i = 3 := by omega
                  obtain ⟨L', kl', _, r, a, a1⟩ := HNS.out
                  have HBB := Lib.hid r.bel
                  clear r a a1
                  go_wp2_with fail
                  refine (dr_awake _).mono ?_; rintro e w9 ⟨rfl, b9⟩
                  have HB9 := Lib.hid (HBB.out.trans (b9.mono HBB.out.size))
                  clear b9
                  go_wp2_with fail
                  go_ret
                  exact ⟨rfl, HB9.out⟩
set_option maxRecDepth 100000 in
set_option maxHeartbeats 1600000 in
theorem dr_none_walk (A : Option Addr) (m c : Nat) (l : List Nat) (w : World) (hl : Bs w A m l) :
    Calls Try.prog 5 #[.slice A m c] w fun e w' => e = .returned (.bool true) ∧ Below w.heap.size w w' := by
  by_cases hm : (m : Int) ≤ 120
  · exact dr_none_main A m c l w hm hl
  · have h' : (120 : Int) < (m : Int) := by omega
    clear hl hm
    go_enter Try.func5, Try.ntmps5
    go_wp2_with fail
    refine (dr_next_nil _).mono ?_; rintro e w1 ⟨rfl, b1⟩
    have B1 := Lib.hid (b1.alloc b1.size (.cells #[.int .i64 0, .int .i64 0] 35))
    clear b1
    go_wp2_with fail
    generalize w1.alloc (.cells #[.int .i64 0, .int .i64 0] 35) = w2 at *
    refine (dr_add_nil 1 1 _).mono ?_; rintro e w3 ⟨rfl, rfl⟩
    go_wp2_with fail
    refine (dr_remove_nil 1 _).mono ?_; rintro e w3 ⟨rfl, rfl⟩
    go_wp2_with fail
    refine (dr_push_nil (1, 1) _).mono ?_; rintro e w3 ⟨rfl, b3⟩
    have B3 := Lib.hid (B1.out.trans (b3.mono B1.out.size))
    clear b3 B1
    go_wp2_with fail
    refine (dr_len_nil 1 _).mono ?_; rintro e w4 ⟨rfl, rfl⟩
    go_wp2_with fail
    refine (dr_waiting_nil _).mono ?_; rintro e w4 ⟨rfl, rfl⟩
    go_wp2_with fail
    refine (dr_awake _).mono ?_; rintro e w9 ⟨rfl, b9⟩
    have HB9 := Lib.hid (B3.out.trans (b9.mono B3.out.size))
    clear b9
    go_wp2_with fail
    go_ret
    exact ⟨rfl, HB9.out⟩
end Go.Proofs.Ytplbdeaoeocgkaa

/- Proved: lemmas of one statement's proof, merged by program: what each part proves stands ahead of it. Conditions: those that the lemmas name. -/
import Derived.Test.YtmnbkghihdbepaaM34

/- Proved: what the document's Clean of layer 25 answers. Conditions: those that the theorems name. -/
namespace Go.Proofs.Ytmnbkghihdbepaa
open Go.ChangeShapes Go.WideShapes Go.ChangeAt Go.RowKit

set_option maxRecDepth 100000 in
set_option maxHeartbeats 1600000 in
theorem rclean_any {w : World} {c : Nat → Prop} {A : Option Addr} {cp : Nat} {S : List Dg} (h : Cl w c A (dcs S)) (hc : ∀ g, w.heap.size ≤ g → c g) (hS : S.length ≤ 60000) (hB : ∀ d ∈ S, d.block < 4294967296) (s base : Int) (hu : U32 base) :
    Calls Try.prog 10 #[.slice A S.length cp, .int .i64 s, .int .u32 base] w (GivesR w c (keepS (cleanU s base) S) ((S.length - (keepS (cleanU s base) S).length : Nat) : Int)) := by
  have HG0 := Lib.hid h
  have HC := Lib.hid hc
  have hfw : (S.length : Int) ≤ 60000 := by omega
  have HKL := Lib.hid (keepS_len (cleanU s base) S)
  have HL := Lib.hid (fun (n : Nat) (hn : n < 4294967296) W => rless_any (n : Int) base (by unfold U32; omega) hu W)
  have HBK := Lib.hid hB
  clear h hc hS hB hu
  generalize hm : S.length = m at *
  have HM := Lib.hid hm
  clear hm
  go_enter Try.func10, Try.ntmps10
  go_wp2_with fail
  go_loopw [8, 9] (fun v i wr => ∃ j : Nat, j ≤ m ∧ i = .int .i64 j ∧ wr.ownsRow w.heap.size 29 10 v (keepS (cleanU s base) (S.take j)).length (dcs (keepS (cleanU s base) (S.take j))) ∧ Below w.heap.size w wr) (fun _ i _ => m - (intOf i).toNat)
  case atStart => exact ⟨0, by omega, rfl, World.ownsRow_nil _ _ _ _, Below.refl _ _⟩
  case round =>
    obtain ⟨i, hj, rfl, hown, hbel⟩ := hrel
    have HO := Lib.hid hown
    have HB := Lib.hid hbel
    clear hown hbel
    have hj0 : (0 : Int) ≤ (i : Int) := Int.natCast_nonneg _
    by_cases hlt : i < m
    · obtain ⟨x, hx⟩ : ∃ x, S[i]? = some x := ⟨_, List.getElem?_eq_getElem (by rw [HM.out]; exact hlt)⟩
      obtain ⟨g, o, e, _, hgl, hcs⟩ := HG0.out.dg hx
      have e : A = some ⟨g, o, none⟩ := e
      subst e
      have HT := Lib.hid (keepS_take (u := cleanU s base) hx)
      have HLL : Hid ((keepS (cleanU s base) (S.take i)).length ≤ 65536) := Lib.hid (by have := keepS_few S (cleanU s base) i; rw [HM.out] at this; omega)
      have hlt' : (i : Int) < (m : Int) := by omega
      have HLX := Lib.hid (HL.out x.block (HBK.out x (List.mem_of_getElem? hx)))
      have HV := Lib.hid (dv_one HO.out HLL.out HB.out.size x)
      obtain ⟨x0, x1, x2, x3, x4, x5, x6, x7, x8, x9⟩ := x
      have d0 : wr.cell? ⟨g, o + i * 10, none⟩ = some (.int .i64 x0) := (HB.out.cell (p := ⟨g, o + i * 10, none⟩) hgl).trans (hcs 0 _ rfl)
      have d1 := (HB.out.cell (p := ⟨g, o + i * 10 + 1, none⟩) hgl).trans (hcs 1 _ rfl)
      have d2 := (HB.out.cell (p := ⟨g, o + i * 10 + 2, none⟩) hgl).trans (hcs 2 _ rfl)
      have d3 := (HB.out.cell (p := ⟨g, o + i * 10 + 3, none⟩) hgl).trans (hcs 3 _ rfl)
      have d4 := (HB.out.cell (p := ⟨g, o + i * 10 + 4, none⟩) hgl).trans (hcs 4 _ rfl)
      have d5 := (HB.out.cell (p := ⟨g, o + i * 10 + 5, none⟩) hgl).trans (hcs 5 _ rfl)
      have d6 := (HB.out.cell (p := ⟨g, o + i * 10 + 6, none⟩) hgl).trans (hcs 6 _ rfl)
      have d7 := (HB.out.cell (p := ⟨g, o + i * 10 + 7, none⟩) hgl).trans (hcs 7 _ rfl)
      have d8 := (HB.out.cell (p := ⟨g, o + i * 10 + 8, none⟩) hgl).trans (hcs 8 _ rfl)
      have d9 := (HB.out.cell (p := ⟨g, o + i * 10 + 9, none⟩) hgl).trans (hcs 9 _ rfl)
      clear hcs hx hgl
      dsimp only at HLX HV
      have HU : Hid (cleanU s base ⟨x0, x1, x2, x3, x4, x5, x6, x7, x8, x9⟩ = (decide (x1 = s) && (decide (x0 = 3) && decide (0 < ah (x2 : Int) base)))) := Lib.hid rfl
      generalize cleanU s base ⟨x0, x1, x2, x3, x4, x5, x6, x7, x8, x9⟩ = u at *
      generalize hz : decide (0 < ah (x2 : Int) base) = z at *
      clear hz
      by_cases h0 : x0 = 3
      · subst h0
        have hn0 : ((3 : Int) != 3) = false := by simp
        by_cases h1 : x1 = s
        · subst h1
          have hn1 : (x1 != x1) = false := by simp
          have hu : u = z := by rw [HU.out]; simp
          subst hu
          cases u with
          | true =>
            rw [if_pos rfl] at HT
            go_wp2_with fail
            refine (HLX.out _).mono ?_; rintro e wq ⟨rfl, rfl⟩
            go_wp2_with fail
            go_roundw
            case rel => exact ⟨i + 1, by omega, by go_num, by rw [HT.out, List.append_nil]; exact HO.out, HB.out⟩
            case measure => simp [intOf]; omega
          | false =>
            rw [if_neg (by decide)] at HT
            obtain ⟨v', w', hr, ho, hg⟩ := HV.out
            have HO2 := Lib.hid ho
            have HB2 : Hid (Below w.heap.size w w') := Lib.hid ((HB.out.alloc HB.out.size _).trans (below_grown hg (Nat.le_trans HB.out.size (by simp)) fun k e => (HO.out.lt k e).1))
            clear ho hg
            go_wp2_with fail
            refine (HLX.out _).mono ?_; rintro e wq ⟨rfl, rfl⟩
            go_wp2_with (at_builtin; refine Lib.wpList_append_run _ rfl _ _ _ _ rfl _ _ rfl rfl _ _ hr ?_)
            go_roundw
            case rel => exact ⟨i + 1, by omega, by go_num, by rw [HT.out, List.length_append]; exact HO2.out, HB2.out⟩
            case measure => simp [intOf]; omega
        · have hn1 : (x1 != s) = true := by simpa using h1
          have hu : u = false := by rw [HU.out]; simp [h1]
          subst hu
          rw [if_neg (by decide)] at HT
          obtain ⟨v', w', hr, ho, hg⟩ := HV.out
          have HO2 := Lib.hid ho
          have HB2 : Hid (Below w.heap.size w w') := Lib.hid ((HB.out.alloc HB.out.size _).trans (below_grown hg (Nat.le_trans HB.out.size (by simp)) fun k e => (HO.out.lt k e).1))
          clear ho hg h1
          go_wp2_with (at_builtin; refine Lib.wpList_append_run _ rfl _ _ _ _ rfl _ _ rfl rfl _ _ hr ?_)
          go_roundw
          case rel => exact ⟨i + 1, by omega, by go_num, by rw [HT.out, List.length_append]; exact HO2.out, HB2.out⟩
          case measure => simp [intOf]; omega
      · have hn0 : (x0 != 3) = true := by simpa using h0
        have hu : u = false := by rw [HU.out]; simp [h0]
        subst hu
        rw [if_neg (by decide)] at HT
        obtain ⟨v', w', hr, ho, hg⟩ := HV.out
        have HO2 := Lib.hid ho
        have HB2 : Hid (Below w.heap.size w w') := Lib.hid ((HB.out.alloc HB.out.size _).trans (below_grown hg (Nat.le_trans HB.out.size (by simp)) fun k e => (HO.out.lt k e).1))
        clear ho hg h0
        go_wp2_with (at_builtin; refine Lib.wpList_append_run _ rfl _ _ _ _ rfl _ _ rfl rfl _ _ hr ?_)
        go_roundw
        case rel => exact ⟨i + 1, by omega, by go_num, by rw [HT.out, List.length_append]; exact HO2.out, HB2.out⟩
        case measure => simp [intOf]; omega
    · obtain rfl : i = m := by omega
      have HT : Hid (S.take i = S) := Lib.hid (by rw [← HM.out, List.take_length])
      rw [HT.out] at HO
      obtain ⟨A3, cap, rfl, hcap, hno, hcl⟩ := Cl.own (c := c) HO.out (fun g hg => HC.out g hg)
      have HF := Lib.hid (And.intro hcl (And.intro hcap hno))
      clear hcl hcap hno HO
      have hsub : ((keepS (cleanU s base) S).length : Int) ≤ (i : Int) := by have := HKL.out; omega
      have hy0 : (0 : Int) ≤ ((keepS (cleanU s base) S).length : Int) := Int.natCast_nonneg _
      have HSUB : Hid ((i : Int) - ((keepS (cleanU s base) S).length : Int) = ((i - (keepS (cleanU s base) S).length : Nat) : Int)) := Lib.hid (by omega)
      generalize keepS (cleanU s base) S = T at *
      go_wp2_with fail
      rw [HSUB.out]
      go_ret2
      exact ⟨A3, cap, rfl, HF.out.1, HF.out.2.1, HF.out.2.2, HB.out⟩
end Go.Proofs.Ytmnbkghihdbepaa

/- Proved: what the document's Ask of layer 25 answers. Conditions: those that the theorems name. -/
namespace Go.Proofs.Ytmnbkghihdbepaa
open Go.ChangeShapes Go.WideShapes Go.ChangeAt Go.RowKit

def turnS (d : Dg) (S : List Dg) : List Dg := S.map fun a => if likeB a d = true then d else a
theorem turnS_len (d : Dg) (S : List Dg) : (turnS d S).length = S.length := List.length_map ..
theorem turnS_take {S : List Dg} {d x : Dg} {i : Nat} (h : S[i]? = some x) : turnS d (S.take (i + 1)) = turnS d (S.take i) ++ [if likeB x d = true then d else x] := by
  unfold turnS
  rw [List.take_add_one, h, List.map_append]
  rfl
theorem any_take {S : List Dg} {d x : Dg} {i : Nat} (h : S[i]? = some x) : (S.take (i + 1)).any (likeB · d) = ((S.take i).any (likeB · d) || likeB x d) := by
  rw [List.take_add_one, h, List.any_append]
  simp
theorem turnS_none {S : List Dg} {d : Dg} (h : S.any (likeB · d) = false) : turnS d S = S := by
  unfold turnS
  rw [List.any_eq_false] at h
  refine (List.map_congr_left fun a ha => ?_).trans (List.map_id _)
  rw [if_neg (h a ha)]; rfl
theorem own_bel {w w' : World} {base : Nat} {e : TypeId} {k n : Nat} {v : Value} {xs : List Value} (h : w.ownsRow base e k v n xs) (b : Below w.heap.size w w') : w'.ownsRow base e k v n xs :=
  h.kept (grown_below b none) (by cases v.ownBlock <;> simp)
set_option maxRecDepth 100000 in
set_option maxHeartbeats 1600000 in
/-- what is refused leaves the slice as it was. -/
theorem rask_bad {w : World} {A : Option Addr} {n cp : Nat} (d : Dg) {z : Int} (hr : refE d = z) (hz : z ≠ 0) :
    Calls Try.prog 7 #[.slice A n cp, d.val] w fun e w' => e = .returned (.tuple #[.slice A n cp, .int .i64 z]) ∧ Below w.heap.size w w' := by
  have HC := Lib.hid (fun W => rcheck10_any d W)
  have B1 : Below w.heap.size w (w.alloc (.cells d.cells.toArray 29)) := (Below.refl _ _).alloc (Nat.le_refl _) _
  have HB1 := Lib.hid B1
  have HA1 := Lib.hid (At.new w 29 d.cells)
  have hE : z = if chk d ≠ 0 then chk d else if d.kind = 1 ∨ d.kind = 2 then 1 else 0 := hr.symm
  clear hr B1
  generalize chk d = q at *
  obtain ⟨a0, a1, a2, a3, a4, a5, a6, a7, a8, a9⟩ := d
  unfold Dg.val at *
  unfold Dg.cells at *
  dsimp only at *
  by_cases hq : q = 0
  · subst hq
    rw [if_neg (by simp)] at hE
    by_cases h1 : a0 = 1
    · rw [if_pos (.inl h1)] at hE
      subst hE; subst h1
      clear hz
      go_enter Try.func7, Try.ntmps7
      go_wp2_with fail
      refine (HC.out _).mono ?_; rintro e w2 ⟨rfl, g2⟩
      have k0 := (HA1.out.below g2 HA1.out.lt).cell 0 rfl
      have HB2 := Lib.hid (HB1.out.trans (g2.mono HB1.out.size))
      clear g2
      go_wp2_with fail
      go_ret2
      exact ⟨rfl, HB2.out⟩
    · have n1 : (a0 == 1) = false := by simpa using h1
      have h2 : a0 = 2 := Classical.byContradiction fun h2 => hz (by rw [hE, if_neg (by omega)])
      rw [if_pos (.inr h2)] at hE
      subst hE; subst h2
      clear h1 n1 hz
      go_enter Try.func7, Try.ntmps7
      go_wp2_with fail
      refine (HC.out _).mono ?_; rintro e w2 ⟨rfl, g2⟩
      have k0 := (HA1.out.below g2 HA1.out.lt).cell 0 rfl
      have HB2 := Lib.hid (HB1.out.trans (g2.mono HB1.out.size))
      clear g2
      go_wp2_with fail
      go_ret2
      exact ⟨rfl, HB2.out⟩
  · rw [if_pos hq] at hE
    have hq' : (q == 0) = false := by simpa using hq
    subst hE
    clear hz hq
    go_enter Try.func7, Try.ntmps7
    go_wp2_with fail
    refine (HC.out _).mono ?_; rintro e w2 ⟨rfl, g2⟩
    have HB2 := Lib.hid (HB1.out.trans (g2.mono HB1.out.size))
    clear g2
    go_wp2_with fail
    go_ret2
    exact ⟨rfl, HB2.out⟩
set_option maxRecDepth 100000 in
set_option maxHeartbeats 3200000 in
theorem rask_good {w : World} {c : Nat → Prop} {A : Option Addr} {cp : Nat} {S : List Dg} (h : Cl w c A (dcs S)) (hc : ∀ g, w.heap.size ≤ g → c g) (hS : S.length ≤ 60000) (d : Dg) (hi : d.block < 4294967296) (hr : refE d = 0) :
    Calls Try.prog 7 #[.slice A S.length cp, d.val] w (GivesR w c (askS S d) 0) := by
  have ok := refE_ok hr hi
  have hq : chk d = 0 := Classical.byContradiction fun q => by
    unfold refE at hr
    rw [if_pos q] at hr
    exact q hr
  have HE : Hid (askS S d = if S.any (likeB · d) = true then turnS d S else turnS d S ++ [d]) := Lib.hid (by
    unfold askS
    rw [if_neg (by simpa using hr)]
    by_cases e : S.any (likeB · d) = true
    · rw [if_pos e, if_pos e]; rfl
    · rw [if_neg e, if_neg e, turnS_none (by simpa using e)])
  have HC := Lib.hid (fun W => by have := rcheck10_any d W; rw [hq] at this; exact this)
  have n1 : (d.kind == 1) = false := beq_eq_false_iff_ne.2 (by have := ok.k; omega)
  have n2 : (d.kind == 2) = false := beq_eq_false_iff_ne.2 (by have := ok.k; omega)
  have HB1 : Hid (Below w.heap.size w (w.alloc (.cells d.cells.toArray 29))) := Lib.hid ((Below.refl _ _).alloc (Nat.le_refl _) _)
  have HA1 := Lib.hid (At.new w 29 d.cells)
  have HG0 := Lib.hid h
  have HCC := Lib.hid hc
  have HLK := Lib.hid (fun x W => rlike_any x d W)
  have HV := Lib.hid (fun (V : World) (v : Value) (n base : Nat) (T : List Dg) (h : V.ownsRow base 29 10 v n (dcs T)) (hn : n ≤ 65536) (hb : base ≤ V.heap.size) => dv_one h hn hb d)
  have hfw : (S.length : Int) ≤ 60000 := by omega
  have HTK := Lib.hid (fun (i : Nat) (x : Dg) (hx : S[i]? = some x) => And.intro (turnS_take (d := d) hx) (any_take (d := d) hx))
  generalize askS S d = S' at *
  obtain ⟨T, hT⟩ : ∃ T, T = turnS d := ⟨_, rfl⟩
  rw [← hT] at HE
  simp only [← hT] at HTK
  have HTL : Hid (∀ j, (T (S.take j)).length ≤ S.length) := Lib.hid fun j => by rw [hT, turnS_len]; exact List.length_take_le' _ _
  obtain ⟨P, hP⟩ : ∃ P : List Dg → Bool, P = fun S => S.any (likeB · d) := ⟨_, rfl⟩
  have hPa : ∀ S : List Dg, S.any (likeB · d) = P S := fun S => by rw [hP]
  simp only [hPa] at HE HTK
  have HT0 : Hid (T (S.take 0) = [] ∧ P (S.take 0) = false) := Lib.hid ⟨by rw [hT]; rfl, by rw [hP]; rfl⟩
  obtain ⟨Q, hQ⟩ : ∃ Q : Dg → Bool, Q = fun x => likeB x d := ⟨_, rfl⟩
  have hQa : ∀ x, likeB x d = Q x := fun x => by rw [hQ]
  simp only [hQa] at HLK HTK
  clear h hc hS hi hr ok hq hT hP hPa hQ hQa
  generalize hm : S.length = m at *
  have HM := Lib.hid hm
  clear hm
  obtain ⟨dd, hdd⟩ : ∃ dd, dd = d := ⟨_, rfl⟩
  have HDD := Lib.hid hdd
  rw [← hdd] at HE HTK HV
  clear hdd
  obtain ⟨a0, a1, a2, a3, a4, a5, a6, a7, a8, a9⟩ := d
  unfold Dg.val at *
  unfold Dg.cells at *
  dsimp only at *
  go_enter Try.func7, Try.ntmps7
  go_wp2_with fail
  refine (HC.out _).mono ?_; rintro e w2 ⟨rfl, g2⟩
  have HA2 := Lib.hid (HA1.out.below g2 HA1.out.lt)
  have HB2 := Lib.hid (HB1.out.trans (g2.mono HB1.out.size))
  have k0 := HA2.out.cell 0 rfl
  clear g2 HA1 HB1
  have HBX : Hid (w.heap.size < w2.heap.size) := Lib.hid HA2.out.lt
  have HCB : Hid (∀ g, w2.heap.size ≤ g → c g) := Lib.hid fun g hg => HCC.out g (by have := HB2.out.size; omega)
  have HGL := Lib.hid (HG0.out.below HB2.out)
  go_wp2_with fail
  clear k0
  generalize hbx : w.heap.size = bx at HA2 ⊢
  have HBE : Hid (w.heap.size = bx) := Lib.hid hbx
  clear hbx
  go_loopw [7, 8, 9] (fun v s i wr => ∃ j : Nat, j ≤ m ∧ i = .int .i64 j ∧ s = .bool (P (S.take j)) ∧ wr.ownsRow w2.heap.size 29 10 v (T (S.take j)).length (dcs (T (S.take j))) ∧ Below w2.heap.size w2 wr) (fun _ _ i _ => m - (intOf i).toNat)
  case atStart => exact ⟨0, by omega, rfl, by rw [HT0.out.2], by rw [HT0.out.1]; exact World.ownsRow_nil _ _ _ _, Below.refl _ _⟩
  case round =>
    obtain ⟨i, hj, rfl, rfl, hown, hbel⟩ := hrel
    have HO := Lib.hid hown
    have HB := Lib.hid hbel
    clear hown hbel
    have hj0 : (0 : Int) ≤ (i : Int) := Int.natCast_nonneg _
    by_cases hlt : i < m
    · obtain ⟨x, hx⟩ : ∃ x, S[i]? = some x := ⟨_, List.getElem?_eq_getElem (by rw [HM.out]; exact hlt)⟩
      obtain ⟨g, o, e, _, hgl, hcs⟩ := HGL.out.dg hx
      have e : A = some ⟨g, o, none⟩ := e
      subst e
      have HTX := Lib.hid (HTK.out i x hx)
      have HLL : Hid ((T (S.take i)).length ≤ 65536) := Lib.hid (by have := HTL.out i; omega)
      have hlt' : (i : Int) < (m : Int) := by omega
      have HXC : Hid (∀ W, Below w2.heap.size w2 W → ∀ j v, x.cells[j]? = some v → W.cell? ⟨g, o + i * 10 + j, none⟩ = some v) := Lib.hid fun W hW j v hj => (hW.cell (p := ⟨g, o + i * 10 + j, none⟩) hgl).trans (hcs j v hj)
      have HLX := Lib.hid (HLK.out x)
      have HDV := Lib.hid (fun (V : World) (v : Value) (n base : Nat) (U : List Dg) (h : V.ownsRow base 29 10 v n (dcs U)) (hn : n ≤ 65536) (hb : base ≤ V.heap.size) => dv_one h hn hb x)
      clear hx hcs hgl
      generalize hqx : Q x = qx at *
      clear hqx
      obtain ⟨xx, hxx⟩ : ∃ xx, xx = x := ⟨_, rfl⟩
      have HXX := Lib.hid hxx
      rw [← hxx] at HTX HDV
      clear hxx
      obtain ⟨x0, x1, x2, x3, x4, x5, x6, x7, x8, x9⟩ := x
      dsimp only at *
      have KP : Hid (∀ W, Below wr.heap.size wr W → W.cell? ⟨g, o + i * 10, none⟩ = some (.int .i64 x0) ∧ W.cell? ⟨g, o + i * 10 + 1, none⟩ = some (.int .i64 x1) ∧ W.cell? ⟨g, o + i * 10 + 2, none⟩ = some (.int .u32 x2) ∧ W.cell? ⟨g, o + i * 10 + 3, none⟩ = some (.int .i64 x3) ∧ W.cell? ⟨g, o + i * 10 + 4, none⟩ = some (.int .i64 x4) ∧ W.cell? ⟨g, o + i * 10 + 5, none⟩ = some (.int .i64 x5) ∧ W.cell? ⟨g, o + i * 10 + 6, none⟩ = some (.int .i64 x6) ∧ W.cell? ⟨g, o + i * 10 + 7, none⟩ = some (.int .i64 x7) ∧ W.cell? ⟨g, o + i * 10 + 8, none⟩ = some (.string x8) ∧ W.cell? ⟨g, o + i * 10 + 9, none⟩ = some (.string x9) ∧ W.cell? ⟨bx, 0, none⟩ = some (.int .i64 a0) ∧ W.cell? ⟨bx, 1, none⟩ = some (.int .i64 a1) ∧ W.cell? ⟨bx, 2, none⟩ = some (.int .u32 a2) ∧ W.cell? ⟨bx, 3, none⟩ = some (.int .i64 a3) ∧ W.cell? ⟨bx, 4, none⟩ = some (.int .i64 a4) ∧ W.cell? ⟨bx, 5, none⟩ = some (.int .i64 a5) ∧ W.cell? ⟨bx, 6, none⟩ = some (.int .i64 a6) ∧ W.cell? ⟨bx, 7, none⟩ = some (.int .i64 a7) ∧ W.cell? ⟨bx, 8, none⟩ = some (.string a8) ∧ W.cell? ⟨bx, 9, none⟩ = some (.string a9)) := Lib.hid fun W hW => by
        have hb := HB.out.trans (hW.mono HB.out.size)
        have q := HA2.out.below hb HA2.out.lt
        exact ⟨HXC.out W hb 0 _ rfl, HXC.out W hb 1 _ rfl, HXC.out W hb 2 _ rfl, HXC.out W hb 3 _ rfl, HXC.out W hb 4 _ rfl, HXC.out W hb 5 _ rfl, HXC.out W hb 6 _ rfl, HXC.out W hb 7 _ rfl, HXC.out W hb 8 _ rfl, HXC.out W hb 9 _ rfl, q.cell 0 rfl, q.cell 1 rfl, q.cell 2 rfl, q.cell 3 rfl, q.cell 4 rfl, q.cell 5 rfl, q.cell 6 rfl, q.cell 7 rfl, q.cell 8 rfl, q.cell 9 rfl⟩
      have QQ : Hid (Below wr.heap.size wr wr.drew) := Lib.hid (Below.refl _ _).drew
      obtain ⟨k0, k1, k2, k3, k4, k5, k6, k7, k8, k9, k10, k11, k12, k13, k14, k15, k16, k17, k18, k19⟩ := KP.out _ QQ.out
      go_upto_region 11 with fail
      go_region_held3 (fun W => W.cell? ⟨g, o + i * 10, none⟩ = some (.int .i64 x0) ∧ W.cell? ⟨g, o + i * 10 + 1, none⟩ = some (.int .i64 x1) ∧ W.cell? ⟨g, o + i * 10 + 2, none⟩ = some (.int .u32 x2) ∧ W.cell? ⟨g, o + i * 10 + 3, none⟩ = some (.int .i64 x3) ∧ W.cell? ⟨g, o + i * 10 + 4, none⟩ = some (.int .i64 x4) ∧ W.cell? ⟨g, o + i * 10 + 5, none⟩ = some (.int .i64 x5) ∧ W.cell? ⟨g, o + i * 10 + 6, none⟩ = some (.int .i64 x6) ∧ W.cell? ⟨g, o + i * 10 + 7, none⟩ = some (.int .i64 x7) ∧ W.cell? ⟨g, o + i * 10 + 8, none⟩ = some (.string x8) ∧ W.cell? ⟨g, o + i * 10 + 9, none⟩ = some (.string x9) ∧ W.cell? ⟨bx, 0, none⟩ = some (.int .i64 a0) ∧ W.cell? ⟨bx, 1, none⟩ = some (.int .i64 a1) ∧ W.cell? ⟨bx, 2, none⟩ = some (.int .u32 a2) ∧ W.cell? ⟨bx, 3, none⟩ = some (.int .i64 a3) ∧ W.cell? ⟨bx, 4, none⟩ = some (.int .i64 a4) ∧ W.cell? ⟨bx, 5, none⟩ = some (.int .i64 a5) ∧ W.cell? ⟨bx, 6, none⟩ = some (.int .i64 a6) ∧ W.cell? ⟨bx, 7, none⟩ = some (.int .i64 a7) ∧ W.cell? ⟨bx, 8, none⟩ = some (.string a8) ∧ W.cell? ⟨bx, 9, none⟩ = some (.string a9))
        (first | go_keep | with_reducible exact KP.out _ QQ.out)
        (((with_reducible refine (HLX.out _).mono ?_); rintro e wq ⟨rfl, gq⟩; have QN := Lib.hid (QQ.out.trans (gq.mono QQ.out.size)); clear gq QQ; have QQ := QN; clear QN))
      clear k0 k1 k2 k3 k4 k5 k6 k7 k8 k9 k10 k11 k12 k13 k14 k15 k16 k17 k18 k19
      obtain ⟨k0, k1, k2, k3, k4, k5, k6, k7, k8, k9, k10, k11, k12, k13, k14, k15, k16, k17, k18, k19⟩ := KP.out _ QQ.out
      have HOQ := Lib.hid (own_bel HO.out QQ.out)
      have HBQ := Lib.hid (HB.out.trans (QQ.out.mono HB.out.size))
      clear HO HB HLX HLK HG0
      cases qx with
      | true =>
        obtain ⟨v', w', hr, ho, hg⟩ := HV.out wq _ _ _ _ HOQ.out HLL.out HBQ.out.size
        rw [HDD.out] at hr hg
        dsimp only at hr hg
        have HO2 := Lib.hid ho
        have HB2 : Hid (Below w2.heap.size w2 w') := Lib.hid ((HBQ.out.alloc HBQ.out.size _).trans (below_grown hg (Nat.le_trans HBQ.out.size (by simp)) fun k e => (HOQ.out.lt k e).1))
        clear ho hg
        go_wp2_with (at_builtin; refine Lib.wpList_append_run _ rfl _ _ _ _ rfl _ _ rfl rfl _ _ hr ?_)
        go_roundw
        case rel => exact ⟨i + 1, by omega, by go_num, by rw [HTX.out.2, Bool.or_true], by rw [HTX.out.1, if_pos rfl, List.length_append]; exact HO2.out, HB2.out⟩
        case measure => simp [intOf]; omega
      | false =>
        obtain ⟨v', w', hr, ho, hg⟩ := HDV.out wq _ _ _ _ HOQ.out HLL.out HBQ.out.size
        rw [HXX.out] at hr hg
        dsimp only at hr hg
        have HO2 := Lib.hid ho
        have HB2 : Hid (Below w2.heap.size w2 w') := Lib.hid ((HBQ.out.alloc HBQ.out.size _).trans (below_grown hg (Nat.le_trans HBQ.out.size (by simp)) fun k e => (HOQ.out.lt k e).1))
        clear ho hg
        go_wp2_with (at_builtin; refine Lib.wpList_append_run _ rfl _ _ _ _ rfl _ _ rfl rfl _ _ hr ?_)
        go_roundw
        case rel => exact ⟨i + 1, by omega, by go_num, by rw [HTX.out.2, Bool.or_false], by rw [HTX.out.1, if_neg (by decide), List.length_append]; exact HO2.out, HB2.out⟩
        case measure => simp [intOf]; omega
    · obtain rfl : i = m := by omega
      have HT : Hid (S.take i = S) := Lib.hid (by rw [← HM.out, List.take_length])
      rw [HT.out] at HO ⊢
      have HLL : Hid ((T S).length ≤ 65536) := Lib.hid (by have := HTL.out i; rw [HT.out] at this; omega)
      have HBF := Lib.hid (HB2.out.trans (HB.out.mono HB2.out.size))
      generalize P S = ps at *
      cases ps with
      | true =>
        rw [if_pos rfl] at HE
        obtain ⟨A3, cap, rfl, hcap, hno, hcl⟩ := Cl.own (c := c) HO.out (fun g hg => HCB.out g hg)
        have HF := Lib.hid (And.intro hcl (And.intro hcap hno))
        clear hcl hcap hno HO HTK HTL HT0
        generalize T S = U at *
        go_wp2_with fail
        go_ret2
        rw [HE.out]
        exact ⟨A3, cap, rfl, HF.out.1, HF.out.2.1, HF.out.2.2, HBF.out⟩
      | false =>
        rw [if_neg (by decide)] at HE
        have q := HA2.out.below HB.out HA2.out.lt
        have k10 := q.cell 0 rfl
        have k11 := q.cell 1 rfl
        have k12 := q.cell 2 rfl
        have k13 := q.cell 3 rfl
        have k14 := q.cell 4 rfl
        have k15 := q.cell 5 rfl
        have k16 := q.cell 6 rfl
        have k17 := q.cell 7 rfl
        have k18 := q.cell 8 rfl
        have k19 := q.cell 9 rfl
        obtain ⟨v', w', hr, ho, hg⟩ := HV.out wr _ _ _ _ HO.out HLL.out HB.out.size
        rw [HDD.out] at hr hg
        dsimp only at hr hg
        have HB3 : Hid (Below w2.heap.size w2 w') := Lib.hid ((HB.out.alloc HB.out.size _).trans (below_grown hg (Nat.le_trans HB.out.size (by simp)) fun k e => (HO.out.lt k e).1))
        have HBF2 := Lib.hid (HB2.out.trans (HB3.out.mono HB2.out.size))
        obtain ⟨A3, cap, rfl, hcap, hno, hcl⟩ := Cl.own (c := c) ho (fun g hg => HCB.out g hg)
        have HF := Lib.hid (And.intro hcl (And.intro hcap hno))
        have HLE : Hid ((T S).length + 1 = (T S ++ [dd]).length) := Lib.hid (by rw [List.length_append]; rfl)
        clear ho hg hcl hcap hno HTK HTL HT0 q
        go_wp2_with (at_builtin; refine Lib.wpList_append_run _ rfl _ _ _ _ rfl _ _ rfl rfl _ _ hr ?_)
        go_ret2
        rw [HE.out]
        exact ⟨A3, cap, by rw [← HLE.out]; rfl, HF.out.1, by rw [← HLE.out]; exact HF.out.2.1, HF.out.2.2, HBF2.out⟩
end Go.Proofs.Ytmnbkghihdbepaa

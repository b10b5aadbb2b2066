/- Proved: lemmas of one statement's proof, merged by program: what each part proves stands ahead of it. Conditions: those that the lemmas name. -/
import Derived.Test.YtgclgmfmcgacdaaM26

/- Proved: what the document's Get and Oldest answer. Conditions: those that the theorems name. -/
namespace Go.Proofs.Ytgclgmfmcgacdaa
open Go.ChangeShapes Go.WideShapes Go.ChangeAt Go.RowKit

structure FeOk (e : Fe) : Prop where
  n0 : 1 ≤ e.need
  n1 : e.need ≤ 32
  l0 : 1 ≤ e.l.length
  l1 : e.l.length ≤ e.need
  sh : ShOk e.l
/-- faces that may be. -/
structure SOk (S : List Fe) (room : Nat) : Prop where
  ok : ∀ e ∈ S, FeOk e
  kn : (S.map Fe.k).Nodup
  len : S.length ≤ room
  room : room ≤ 65536
theorem SB.sok {w wi : World} {L : Ly} {n room : Nat} {S : List Fe} (h : SB w wi L n room S) : SOk S room := by
  obtain ⟨X, hx, rfl, _⟩ := h
  refine ⟨fun e he => ?_, ?_, by rw [List.length_map]; exact hx.wf.len, hx.wf.room⟩
  · obtain ⟨x, hx', rfl⟩ := List.mem_map.1 he
    have := hx.wf.ok x hx'
    exact ⟨this.n0, this.n1, this.l0, this.l1, this.sh⟩
  · rw [List.map_map]
    exact hx.wf.kn
/-- the faces of entries. -/
abbrev facesE (xs : List Ev) : List Fe := xs.map Ev.e
theorem SOk.nod {xs : List Ev} {room : Nat} (h : SOk (facesE xs) room) : (xs.map fun x => x.e.k).Nodup := by
  have := h.kn
  rw [List.map_map] at this
  exact this
theorem SOk.few {xs : List Ev} {room : Nat} (h : SOk (facesE xs) room) : xs.length ≤ 65536 := by
  have := h.len
  rw [List.length_map] at this
  exact Nat.le_trans this h.room
theorem SOk.at_ {xs : List Ev} {room : Nat} (h : SOk (facesE xs) room) {x : Ev} (hx : x ∈ xs) : FeOk x.e := h.ok _ (List.mem_map.2 ⟨x, hx, rfl⟩)
/-- shards come back, and whether there is an entry. -/
def GivesGR (w : World) (c : Nat → Prop) (S : List Fe) (k : Ky) (e : Ending) (w' : World) : Prop :=
  ∃ A cp, e = .returned (.tuple #[.slice A (getF S k).length cp, .bool (findF S k).isSome]) ∧ Cl w' c A (hcells (getF S k)) ∧ Below w.heap.size w w'
set_option maxRecDepth 100000 in
set_option maxHeartbeats 800000 in
theorem rget_any {w : World} {c : Nat → Prop} {s : Tv} (h : Tg w c s) (k : Ky) (ho : SOk (facesE s.xs) s.room) :
    Calls Try.prog 18 #[s.val, kyV k] w (GivesGR w c (facesE s.xs) k) := by
  obtain ⟨W1, HW, A1, A2, B1, hs⟩ := tkboxes s k w
  have HN := Lib.hid ho.nod
  have HFW := Lib.hid ho.few
  have HG := Lib.hid (h.below B1)
  have HB1 := Lib.hid B1
  have HAT := Lib.hid (rat_any (h.below B1) ho.few k)
  obtain ⟨room, xs, A, n⟩ := s
  obtain ⟨k0, k1⟩ := k
  dsimp only at HW A1 A2 HN HFW
  have HAT : Hid (Calls Try.prog 34 #[.agg #[.int .i64 room, .slice A xs.length n], .agg #[.int .i64 k0, .int .u32 k1]] W1 _) := HAT
  have HA1 := Lib.hid A1
  have c0 := A1.cell 0 rfl
  have c1 := A1.cell 1 rfl
  have y0 := A2.cell 0 rfl
  have y1 := A2.cell 1 rfl
  clear h ho A1 A2 B1 hs
  show Calls Try.prog 18 #[.agg #[.int .i64 room, .slice A xs.length n], .agg #[.int .i64 k0, .int .u32 k1]] w _
  dsimp only
  go_enter Try.func18, Try.ntmps18
  go_upto_region 1 with fail
  rw [← HW]; clear HW
  go_wp2_with fail
  refine HAT.out.mono ?_; rintro e w1 ⟨z, rfl, hz, b1⟩
  have HB2 := Lib.hid (HB1.out.trans (b1.mono HB1.out.size))
  have HG2 := Lib.hid (HG.out.below b1)
  have c1' := (HA1.out.below b1 HA1.out.lt).cell 1 rfl
  rcases find_at HN.out hz with ⟨rfl, hf⟩ | ⟨i, x, rfl, hx, _, hf⟩
  · have HF := Lib.hid hf
    clear c0 c1 y0 y1 b1 HAT hz hf c1'
    go_wp2_with fail
    go_ret2
    have e1 : getF (facesE xs) (k0, k1) = [] := by unfold getF; rw [HF.out]
    refine ⟨none, 0, ?_, ?_, HB2.out⟩
    · rw [e1, HF.out]; rfl
    · rw [e1]; exact Cl.nil _ _ _
  · have HF := Lib.hid hf
    obtain ⟨g, o, e, _, hgl, hcs⟩ := HG2.out.at_ hx
    have e : A = some ⟨g, o, none⟩ := e
    subst e
    have d3 := hcs 3 _ rfl
    have hi := (List.getElem?_eq_some_iff.1 hx).1
    have hlt' : (i : Int) < (xs.length : Int) := by omega
    have hi0 : (0 : Int) ≤ (i : Int) := Int.natCast_nonneg _
    have hfw : (xs.length : Int) ≤ 65536 := by have := HFW.out; omega
    have HE := Lib.hid (HG2.out.ql x (List.mem_of_getElem? hx)).cl
    clear c0 c1 y0 y1 b1 HAT hz hf hcs hi hx hgl
    generalize xs.length = m at *
    go_wp2_with fail
    go_ret2
    have e1 : getF (facesE xs) (k0, k1) = x.e.l := getF_of HF.out
    refine ⟨x.A, x.c, ?_, ?_, HB2.out⟩
    · rw [e1, HF.out]; rfl
    · rw [e1]; exact HE.out
theorem old_at {S : List Fe} {j : Nat} {x : Fe} (hx : S[j]? = some x) (hb : ∀ p y, p < j → S[p]? = some y → y.ready = true) (hr : x.ready = false) : oldF S = some x := by
  unfold oldF
  induction S generalizing j with
  | nil => simp at hx
  | cons a t ih =>
    cases j with
    | zero =>
      simp at hx
      subst hx
      rw [List.find?_cons_of_pos (by simp [hr])]
    | succ j =>
      have ha := hb 0 a (by omega) rfl
      rw [List.find?_cons_of_neg (by simp [ha])]
      exact ih (by simpa using hx) fun p y hp hy => hb (p + 1) y (by omega) (by simpa using hy)
theorem old_no {S : List Fe} (hb : ∀ y ∈ S, y.ready = true) : oldF S = none := by
  unfold oldF
  rw [List.find?_eq_none]
  intro y hy
  simp [hb y hy]
def pset2 (W : World) (b : Nat) (x y : Value) : World := (W.setCell ⟨b, 0, none⟩ x).setCell ⟨b, 1, none⟩ y
theorem pset2_at {W : World} {b : Nat} {t : TypeId} {a c x y : Value} (A : At W b t [a, c]) : At (pset2 W b x y) b t [x, y] := (A.set_ 0 _).set_ 1 _
theorem pset2_below {W w : World} {B b : Nat} {x y : Value} (h : Below B w W) (hw : B ≤ w.heap.size) (hb : B ≤ b) : Below B w (pset2 W b x y) := pset_below (pset_below h hw hb) hw hb
theorem pset2_far {W : World} {b g : Nat} {t : TypeId} {xs : List Value} {x y : Value} (A : At W g t xs) (h : g ≠ b) : At (pset2 W b x y) g t xs := (A.far (p := ⟨b, 0, none⟩) h x).far (p := ⟨b, 1, none⟩) h y
theorem pset2_tn (W : World) (b : Nat) (x y : Value) : Tn (fun g => g = b) W (pset2 W b x y) := ((Tn.refl (fun g => g = b) W).set ⟨b, 0, none⟩ x (fun _ => rfl)).set ⟨b, 1, none⟩ y (fun _ => rfl)
theorem res_rold {T : Array Value} {W : World} {b : Nat} {k : Ky} {z : Bool} (h2 : T.getD 2 undef = .pointer (some ⟨b, 0, none⟩)) (h3 : T.getD 3 undef = .bool z) (h : At W b 35 [.int .i64 k.1, .int .u32 k.2]) : (results Try.f10 T).run Try.prog W = .ok (.tuple #[kyV k, .bool z]) W := by
  have h2' : T[2]?.getD undef = .pointer (some ⟨b, 0, none⟩) := by simpa using h2
  have h3' : T[3]?.getD undef = .bool z := by simpa using h3
  have c0 := h.cell 0 rfl
  have c1 := h.cell 1 rfl
  simp [results, Try.results10, h2', h3', c0, c1, go_sem]
set_option maxRecDepth 100000 in
set_option maxHeartbeats 1600000 in
theorem rold_any {w : World} {c : Nat → Prop} {s : Tv} (h : Tg w c s) (ho : SOk (facesE s.xs) s.room) :
    Calls Try.prog 10 #[s.val] w fun e w' => e = .returned (.tuple #[kyV (oldFK (facesE s.xs)), .bool (oldF (facesE s.xs)).isSome]) ∧ Below w.heap.size w w' := by
  obtain ⟨W1, HW, A1, A2, B1, hs⟩ := tkboxes s (0, 0) w
  have HK := Lib.hid ho
  have HG := Lib.hid (h.below B1)
  have HB1 := Lib.hid B1
  obtain ⟨room, xs, A, n⟩ := s
  dsimp only at HW A1 A2 HK
  have HA1 := Lib.hid A1
  have HA2 := Lib.hid A2
  have hfw : (xs.length : Int) ≤ 65536 := by have : xs.length ≤ 65536 := ho.few; omega
  clear h ho A1 A2 B1 hs
  show Calls Try.prog 10 #[.agg #[.int .i64 room, .slice A xs.length n]] w _
  dsimp only
  obtain ⟨KO, hko⟩ : ∃ z, oldFK (facesE xs) = z := ⟨_, rfl⟩
  obtain ⟨BO, hbo⟩ : ∃ z, (oldF (facesE xs)).isSome = z := ⟨_, rfl⟩
  rw [hko, hbo]
  have HKO := Lib.hid (And.intro hko hbo)
  clear hko hbo
  have KP : Hid (∀ V, Below W1.heap.size W1 V → V.cell? ⟨w.heap.size, 1, none⟩ = some (.slice A xs.length n)) := Lib.hid fun V hV => (HA1.out.below hV HA1.out.lt).cell 1 rfl
  generalize hm : xs.length = m at *
  have HM := Lib.hid hm
  clear hm
  go_enter Try.func10, Try.ntmps10
  go_upto_region 1 with fail
  rw [← HW]; clear HW
  go_wp2_with fail
  go_loopw [4] (fun i wr => ∃ j : Nat, j ≤ m ∧ i = .int .i64 j ∧ (∀ p x, p < j → xs[p]? = some x → x.e.ready = true) ∧ Below W1.heap.size W1 wr) (fun i _ => m - (intOf i).toNat)
  case atStart => exact ⟨0, by omega, rfl, fun p _ hp => absurd hp (by omega), Below.refl _ _⟩
  case round =>
    obtain ⟨j, hj, rfl, hne, hbel⟩ := hrel
    have HN := Lib.hid hne
    have HB := Lib.hid hbel
    have e1 := KP.out _ hbel
    clear hne hbel
    have hj0 : (0 : Int) ≤ (j : Int) := Int.natCast_nonneg _
    by_cases hlt : j < m
    · obtain ⟨x, hx⟩ : ∃ x, xs[j]? = some x := ⟨_, List.getElem?_eq_getElem (by rw [HM.out]; exact hlt)⟩
      obtain ⟨g, o, e, _, hgl, hcs⟩ := HG.out.at_ hx
      have e : A = some ⟨g, o, none⟩ := e
      subst e
      have hxo := HK.out.at_ (List.mem_of_getElem? hx)
      have HR := Lib.hid (rready_any x hxo.l1 hxo.n1 wr)
      have d0 := (HB.out.cell (p := ⟨g, o + j * 4 + 0, none⟩) hgl).trans (hcs 0 _ rfl)
      have d1 := (HB.out.cell (p := ⟨g, o + j * 4 + 1, none⟩) hgl).trans (hcs 1 _ rfl)
      have d2 := (HB.out.cell (p := ⟨g, o + j * 4 + 2, none⟩) hgl).trans (hcs 2 _ rfl)
      have d3 := (HB.out.cell (p := ⟨g, o + j * 4 + 3, none⟩) hgl).trans (hcs 3 _ rfl)
      have HD : Hid (∀ V, Below W1.heap.size W1 V → V.cell? ⟨g, o + j * 4, none⟩ = some (.int .i64 x.e.k.1) ∧ V.cell? ⟨g, o + j * 4 + 1, none⟩ = some (.int .u32 x.e.k.2)) := Lib.hid fun V hV =>
        ⟨(hV.cell (p := ⟨g, o + j * 4, none⟩) hgl).trans (hcs 0 _ rfl), (hV.cell (p := ⟨g, o + j * 4 + 1, none⟩) hgl).trans (hcs 1 _ rfl)⟩
      dsimp only [Nat.add_zero] at d0
      have HX := Lib.hid hx
      have hlt' : (j : Int) < (m : Int) := by omega
      have HXE : Hid (∀ r, x.e.ready = r → x.e.ready = r) := Lib.hid fun _ e => e
      clear hcs hx hgl hxo HXE
      have HR : Hid (Calls Try.prog 22 #[.agg #[.int .i64 x.e.k.1, .int .u32 x.e.k.2, .int .i64 x.e.need, .slice x.A x.e.l.length x.c]] wr _) := HR
      cases hr : x.e.ready with
      | true =>
        rw [hr] at HR
        have HRR := Lib.hid hr
        clear hr
        go_wp2_with fail
        refine HR.out.mono ?_; rintro e w2 ⟨rfl, b2⟩
        have HB2 := Lib.hid (HB.out.trans (b2.mono HB.out.size))
        clear d0 d1 d2 d3 e1 b2 HR
        go_wp2_with fail
        go_roundw
        case rel =>
          refine ⟨j + 1, by omega, by go_num, fun p y hp hy => ?_, HB2.out⟩
          rcases Nat.lt_or_ge p j with q | q
          · exact HN.out p y q hy
          · obtain rfl : p = j := by omega
            rw [HX.out] at hy
            injection hy with hy
            subst hy
            exact HRR.out
        case measure => simp [intOf]; omega
      | false =>
        rw [hr] at HR
        have HRR := Lib.hid hr
        clear hr
        go_wp2_with fail
        refine HR.out.mono ?_; rintro e w2 ⟨rfl, b2⟩
        have HB2 := Lib.hid (HB.out.trans (b2.mono HB.out.size))
        have A4 := HA2.out.below HB2.out HA2.out.lt
        have e1 := KP.out _ HB2.out
        obtain ⟨d0, d1⟩ := HD.out _ HB2.out
        have f0 := A4.free 0
        have f1 := A4.free 1
        have x0 := A4.cell 0 rfl
        have x1 := A4.cell 1 rfl
        have HA4 := Lib.hid A4
        clear d2 d3 b2 HR A4
        go_wp2_with fail
        change bodyPost _ _ _ _ _ (pset2 w2 (w.heap.size + 1) (.int .i64 x.e.k.1) (.int .u32 x.e.k.2))
        have hold : oldF (facesE xs) = some x.e := old_at (j := j) (by rw [List.getElem?_map, HX.out]; rfl) (fun p y hp hy => by
          rw [List.getElem?_map] at hy
          obtain ⟨y', hy', rfl⟩ := Option.map_eq_some_iff.1 hy
          exact HN.out p y' hp hy') HRR.out
        have hk : KO = x.e.k := by rw [← HKO.out.1]; unfold oldFK; rw [hold]
        have hb : BO = true := by rw [← HKO.out.2, hold]; rfl
        subst hk; subst hb
        exact bodyPost_ret (v := .tuple #[kyV x.e.k, .bool true]) (res_rold rfl rfl (pset2_at HA4.out)) rfl ⟨rfl, HB1.out.trans (pset2_below (HB2.out.mono HB1.out.size) HB1.out.size (Nat.le_succ _))⟩
    · obtain rfl : j = m := by omega
      have A4 := HA2.out.below HB.out HA2.out.lt
      have f0 := A4.free 0
      have f1 := A4.free 1
      have x0 := A4.cell 0 rfl
      have x1 := A4.cell 1 rfl
      have HA4 := Lib.hid A4
      clear A4
      go_wp2_with fail
      change bodyPost _ _ _ _ _ (pset2 wr (w.heap.size + 1) (.int .i64 0) (.int .u32 0))
      have hold : oldF (facesE xs) = none := old_no fun y hy => by
        obtain ⟨x, hx, rfl⟩ := List.mem_map.1 hy
        obtain ⟨p, hp, rfl⟩ := List.getElem_of_mem hx
        exact HN.out p _ (by rw [← HM.out]; exact hp) (List.getElem?_eq_getElem hp)
      have hk : KO = (0, 0) := by rw [← HKO.out.1]; unfold oldFK; rw [hold]
      have hb : BO = false := by rw [← HKO.out.2, hold]; rfl
      subst hk; subst hb
      exact bodyPost_ret (v := .tuple #[kyV (0, 0), .bool false]) (res_rold rfl rfl (pset2_at HA4.out)) rfl ⟨rfl, HB1.out.trans (pset2_below (HB.out.mono HB1.out.size) HB1.out.size (Nat.le_succ _))⟩
end Go.Proofs.Ytgclgmfmcgacdaa

/- Proved: what the document's Drop answers. Conditions: those that the theorems name. -/
namespace Go.Proofs.Ytgclgmfmcgacdaa
open Go.ChangeShapes Go.WideShapes Go.ChangeAt Go.RowKit

/-- is an entry kept? -/
def keepD (s : Int) (j : Bool) (b : Int) (k : Ky) : Bool := !decide (k.1 = s) || (j && !decide (k.2 = b))
/-- A box with a table, and an empty result behind it. -/
theorem ttboxes (s : Tv) (w : World) : ∃ W, W = (w.alloc (.cells #[.int .i64 s.room, .slice s.A s.xs.length s.c] 30)).alloc (.cells #[.int .i64 0, .slice none 0 0] 30) ∧ At W w.heap.size 30 [.int .i64 s.room, .slice s.A s.xs.length s.c] ∧ At W (w.heap.size + 1) 30 [.int .i64 0, .slice none 0 0] ∧ Below w.heap.size w W ∧ W.heap.size = w.heap.size + 2 := by
  refine ⟨_, rfl, ?_, ?_, ?_, by simp⟩
  · exact (At.new w 30 [.int .i64 s.room, .slice s.A s.xs.length s.c]).alloc _
  · have h := At.new (w.alloc (.cells #[.int .i64 s.room, .slice s.A s.xs.length s.c] 30)) 30 [.int .i64 0, .slice none 0 0]
    simpa using h
  · exact ((Below.refl _ _).alloc (Nat.le_refl _) _).alloc (by simp) _
/-- one entry more behind an own row. -/
theorem ev_one {w : World} {base n : Nat} {v : Value} {xs : List Ev} (h : w.ownsRow base 76 4 v n (evcells xs)) (hn : n ≤ 65536) (hbase : base ≤ w.heap.size) (x : Ev) :
    ∃ v' w', (Builtin.append_ #[28, 28] 28 #[v, .slice (some ⟨w.heap.size, 0, none⟩) 1 1]).run Try.prog (w.alloc (.cells #[.int .i64 x.e.k.1, .int .u32 x.e.k.2, .int .i64 x.e.need, .slice x.A x.e.l.length x.c] 76)) = .ok v' w' ∧ w'.ownsRow base 76 4 v' (n + 1) (evcells (xs ++ [x])) ∧ (w.alloc (.cells #[.int .i64 x.e.k.1, .int .u32 x.e.k.2, .int .i64 x.e.need, .slice x.A x.e.l.length x.c] 76)).grownBy w' v.ownBlock := by
  have hA := At.new w 76 x.cells
  obtain ⟨v', w', hr, ho, hg⟩ := run_copy (ty := 28) Try.underlying28 Try.infoE rfl (by decide) (h.alloc (.cells #[.int .i64 x.e.k.1, .int .u32 x.e.k.2, .int .i64 x.e.need, .slice x.A x.e.l.length x.c] 76)) (c := fun _ => True) (A := some ⟨w.heap.size, 0, none⟩) (m := 1) (cp := 1) (ys := evcells [x]) rfl (cl_at (n := 4) hA trivial rfl) (fun e => nomatch e) (evcells_one _) (by omega) (by decide) (Nat.le_trans hbase (by simp))
  exact ⟨v', w', hr, by rw [evcells_app]; exact ho, hg⟩
theorem res_rdrop {T : Array Value} {W : World} {b : Nat} {s : Tv} {z : Int} (h2 : T.getD 8 undef = .pointer (some ⟨b, 0, none⟩)) (h3 : T.getD 9 undef = .int .i64 z) (h : At W b 30 [.int .i64 s.room, .slice s.A s.xs.length s.c]) : (results Try.f19 T).run Try.prog W = .ok (.tuple #[s.val, .int .i64 z]) W := by
  have h2' : T[8]?.getD undef = .pointer (some ⟨b, 0, none⟩) := by simpa using h2
  have h3' : T[9]?.getD undef = .int .i64 z := by simpa using h3
  have c0 := h.cell 0 rfl
  have c1 := h.cell 1 rfl
  simp [results, Try.results19, h2', h3', c0, c1, go_sem, Tv.val]
/-- those that are kept. -/
def keptE (xs : List Ev) (s : Int) (j : Bool) (b : Int) : List Ev := xs.filter fun x => keepD s j b x.e.k
theorem kept_take {xs : List Ev} {s : Int} {j : Bool} {b : Int} {i : Nat} {x : Ev} (h : xs[i]? = some x) : keptE (xs.take (i + 1)) s j b = keptE (xs.take i) s j b ++ (if keepD s j b x.e.k = true then [x] else []) := by
  unfold keptE
  rw [List.take_add_one, h, List.filter_append]
  congr 1
  simp only [Option.toList, List.filter_cons, List.filter_nil]
theorem kept_len (xs : List Ev) (s : Int) (j : Bool) (b : Int) : (keptE xs s j b).length ≤ xs.length := List.length_filter_le _ _
/-- the document's table and a number come back. -/
def GivesT (w : World) (c : Nat → Prop) (room : Nat) (xs : List Ev) (z : Int) (e : Ending) (w' : World) : Prop :=
  ∃ A cp, e = .returned (.tuple #[.agg #[.int .i64 room, .slice A xs.length cp], .int .i64 z]) ∧ Tg w' c ⟨room, xs, A, cp⟩ ∧ Below w.heap.size w w'
set_option maxRecDepth 100000 in
set_option maxHeartbeats 1600000 in
theorem rdrop_any {w : World} {c : Nat → Prop} {s : Tv} (h : Tg w c s) (hc : ∀ g, w.heap.size ≤ g → c g) (hb : s.xs.length ≤ 65536) (st : Int) (jb : Bool) (bl : Int) :
    Calls Try.prog 19 #[s.val, .int .i64 st, .bool jb, .int .u32 bl] w (GivesT w c s.room (keptE s.xs st jb bl) ((s.xs.length - (keptE s.xs st jb bl).length : Nat) : Int)) := by
  obtain ⟨W1, HW, A1, A2, B1, hs⟩ := ttboxes s w
  have HG := Lib.hid (h.below B1)
  have HG0 := Lib.hid h
  have HB1 := Lib.hid B1
  have HC := Lib.hid hc
  have HZ : Hid (W1.heap.size = w.heap.size + 2) := Lib.hid hs
  obtain ⟨room, xs, A, n⟩ := s
  dsimp only at HW A1 A2 hb
  have HA1 := Lib.hid A1
  have HA2 := Lib.hid A2
  have hfw : (xs.length : Int) ≤ 65536 := by omega
  have HKL := Lib.hid (kept_len xs st jb bl)
  have KP : Hid (∀ V, Below W1.heap.size W1 V → V.cell? ⟨w.heap.size, 1, none⟩ = some (.slice A xs.length n)) := Lib.hid fun V hV => (A1.below hV A1.lt).cell 1 rfl
  clear h hc A1 A2 B1 hs hb
  show Calls Try.prog 19 #[.agg #[.int .i64 room, .slice A xs.length n], .int .i64 st, .bool jb, .int .u32 bl] w (GivesT w c room (keptE xs st jb bl) ((xs.length - (keptE xs st jb bl).length : Nat) : Int))
  generalize hm : xs.length = m at *
  have HM := Lib.hid hm
  clear hm
  go_enter Try.func19, Try.ntmps19
  go_upto_region 1 with fail
  rw [← HW]; clear HW
  go_wp2_with fail
  go_loopw [10, 11] (fun v i wr => ∃ j : Nat, j ≤ m ∧ i = .int .i64 j ∧ wr.ownsRow W1.heap.size 76 4 v (keptE (xs.take j) st jb bl).length (evcells (keptE (xs.take j) st jb bl)) ∧ Below W1.heap.size W1 wr) (fun _ i _ => m - (intOf i).toNat)
  case atStart => exact ⟨0, by omega, rfl, World.ownsRow_nil _ _ _ _, Below.refl _ _⟩
  case round =>
    obtain ⟨i, hj, rfl, hown, hbel⟩ := hrel
    have HO := Lib.hid hown
    have HB := Lib.hid hbel
    have e1 := KP.out _ hbel
    clear hown hbel
    have hj0 : (0 : Int) ≤ (i : Int) := Int.natCast_nonneg _
    by_cases hlt : i < m
    · obtain ⟨x, hx⟩ : ∃ x, xs[i]? = some x := ⟨_, List.getElem?_eq_getElem (by rw [HM.out]; exact hlt)⟩
      obtain ⟨g, o, e, _, hgl, hcs⟩ := HG.out.at_ hx
      have e : A = some ⟨g, o, none⟩ := e
      subst e
      have d0 := (HB.out.cell (p := ⟨g, o + i * 4 + 0, none⟩) hgl).trans (hcs 0 _ rfl)
      have d1 := (HB.out.cell (p := ⟨g, o + i * 4 + 1, none⟩) hgl).trans (hcs 1 _ rfl)
      have d2 := (HB.out.cell (p := ⟨g, o + i * 4 + 2, none⟩) hgl).trans (hcs 2 _ rfl)
      have d3 := (HB.out.cell (p := ⟨g, o + i * 4 + 3, none⟩) hgl).trans (hcs 3 _ rfl)
      have HT := Lib.hid (kept_take (s := st) (j := jb) (b := bl) hx)
      have hlt' : (i : Int) < (m : Int) := by omega
      have HLL : Hid ((keptE (xs.take i) st jb bl).length ≤ 65536) := Lib.hid (Nat.le_trans (kept_len _ _ _ _) (Nat.le_trans (List.length_take_le _ _) (by omega)))
      clear hcs hx hgl
      obtain ⟨⟨⟨q0, q1⟩, nd, l⟩, xA, xc⟩ := x
      dsimp only [Nat.add_zero] at d0 d1 d2 d3 HT
      by_cases e : q0 = st
      · subst e
        have hn0 : (q0 != q0) = false := by simp
        cases jb with
        | false =>
          have hP : keepD q0 false bl (q0, q1) = false := by simp [keepD]
          clear hn0
          rw [hP, if_neg (by decide), List.append_nil] at HT
          clear hP
          go_wp2_with fail
          go_roundw
          case rel => exact ⟨i + 1, by omega, by go_num, by rw [HT.out]; exact HO.out, HB.out⟩
          case measure => simp [intOf]; omega
        | true =>
          by_cases e : q1 = bl
          · subst e
            have hn1 : (q1 != q1) = false := by simp
            have hP : keepD q0 true q1 (q0, q1) = false := by simp [keepD]
            rw [hP, if_neg (by decide), List.append_nil] at HT
            clear hP
            go_wp2_with fail
            go_roundw
            case rel => exact ⟨i + 1, by omega, by go_num, by rw [HT.out]; exact HO.out, HB.out⟩
            case measure => simp [intOf]; omega
          · have hn1 : (q1 != bl) = true := by simpa using e
            have hP : keepD q0 true bl (q0, q1) = true := by simp [keepD, e]
            clear e
            rw [hP, if_pos rfl] at HT
            obtain ⟨v', w', hr, ho, hg⟩ := ev_one HO.out (by have := HLL.out; omega) HB.out.size ⟨⟨(q0, q1), nd, l⟩, xA, xc⟩
            have HO2 := Lib.hid ho
            have HB2 : Hid (Below W1.heap.size W1 w') := Lib.hid ((HB.out.alloc HB.out.size _).trans (below_grown hg (Nat.le_trans HB.out.size (by simp)) fun k e => (HO.out.lt k e).1))
            clear ho hg hP
            go_wp2_with (at_builtin; refine Lib.wpList_append_run _ rfl _ _ _ _ rfl _ _ rfl rfl _ _ hr ?_)
            go_roundw
            case rel => exact ⟨i + 1, by omega, by go_num, by rw [HT.out, List.length_append]; exact HO2.out, HB2.out⟩
            case measure => simp [intOf]; omega
      · have hn0 : (q0 != st) = true := by simpa using e
        have hP : keepD st jb bl (q0, q1) = true := by simp [keepD, e]
        clear e
        rw [hP, if_pos rfl] at HT
        obtain ⟨v', w', hr, ho, hg⟩ := ev_one HO.out (by have := HLL.out; omega) HB.out.size ⟨⟨(q0, q1), nd, l⟩, xA, xc⟩
        have HO2 := Lib.hid ho
        have HB2 : Hid (Below W1.heap.size W1 w') := Lib.hid ((HB.out.alloc HB.out.size _).trans (below_grown hg (Nat.le_trans HB.out.size (by simp)) fun k e => (HO.out.lt k e).1))
        clear ho hg hP
        go_wp2_with (at_builtin; refine Lib.wpList_append_run _ rfl _ _ _ _ rfl _ _ rfl rfl _ _ hr ?_)
        go_roundw
        case rel => exact ⟨i + 1, by omega, by go_num, by rw [HT.out, List.length_append]; exact HO2.out, HB2.out⟩
        case measure => simp [intOf]; omega
    · obtain rfl : i = m := by omega
      have HT : Hid (xs.take i = xs) := Lib.hid (by rw [← HM.out, List.take_length])
      rw [HT.out] at HO
      obtain ⟨A3, cap, rfl, hcap, hno, hcl⟩ := Cl.own (c := fun g => c g ∧ w.heap.size + 2 ≤ g) HO.out (fun g hg => ⟨HC.out g (Nat.le_trans HB1.out.size hg), by have := HZ.out; omega⟩)
      obtain ⟨ys, hys⟩ : ∃ ys, keptE xs st jb bl = ys := ⟨_, rfl⟩
      rw [hys] at hcl hcap HO HKL ⊢
      have HYS := Lib.hid hys
      have P1 := HA1.out.below HB.out HA1.out.lt
      have P2 := HA2.out.below HB.out HA2.out.lt
      have a1 := P1.cell 1 rfl
      have g1 := P1.free 1
      have S1 := P1.set_ 1 (.slice A3 ys.length cap)
      have T1 := P2.far (p := ⟨w.heap.size, 1, none⟩) (by show w.heap.size + 1 ≠ w.heap.size; omega) (.slice A3 ys.length cap)
      have tn1 : Tn (fun g => g = w.heap.size) wr (wr.setCell ⟨w.heap.size, 1, none⟩ (.slice A3 ys.length cap)) := (Tn.refl (fun g => g = w.heap.size) wr).set ⟨w.heap.size, 1, none⟩ _ (fun _ => rfl)
      have HCQ := Lib.hid (hcl.tn tn1 fun g _ e f => by have := e.2; omega)
      have HCP := Lib.hid (And.intro hcap hno)
      have HB4 := Lib.hid (pset_below (j := 1) (v := .slice A3 ys.length cap) (HB1.out.trans (HB.out.mono HB1.out.size)) (Nat.le_refl _) (Nat.le_refl w.heap.size))
      have HS1 := Lib.hid S1
      have HT1 := Lib.hid T1
      have hsub : (ys.length : Int) ≤ (i : Int) := by have := HKL.out; omega
      have hy0 : (0 : Int) ≤ (ys.length : Int) := Int.natCast_nonneg _
      have HSUB : Hid ((i : Int) - (ys.length : Int) = ((i - ys.length : Nat) : Int)) := Lib.hid (by omega)
      clear P1 P2 S1 T1 tn1 hcl hcap hno HO hys
      go_upto_region 9 with fail
      change Code.wp _ _ _ _ (wr.setCell ⟨w.heap.size, 1, none⟩ (.slice A3 ys.length cap))
      rw [HSUB.out]
      generalize wr.setCell ⟨w.heap.size, 1, none⟩ (.slice A3 ys.length cap) = w4 at *
      clear a1 g1 e1
      have s0 := HS1.out.cell 0 rfl
      have s1 := HS1.out.cell 1 rfl
      have t0 := HT1.out.cell 0 rfl
      have t1 := HT1.out.cell 1 rfl
      have f0 := HT1.out.free 0
      have f1 := HT1.out.free 1
      have HT9 := Lib.hid (pset2_at (x := .int .i64 room) (y := .slice A3 ys.length cap) HT1.out)
      have HB9 := Lib.hid (pset2_below (b := w.heap.size + 1) (x := .int .i64 room) (y := .slice A3 ys.length cap) HB4.out (Nat.le_refl _) (Nat.le_succ _))
      have HQ9 := Lib.hid ((HCQ.out.tn (pset2_tn w4 (w.heap.size + 1) (.int .i64 room) (.slice A3 ys.length cap)) fun g _ e f => by have := e.2; omega).mono (d := c) fun g _ e => e.1)
      go_wp2_with fail
      change bodyPost _ _ _ _ _ (pset2 w4 (w.heap.size + 1) (.int .i64 room) (.slice A3 ys.length cap))
      generalize pset2 w4 (w.heap.size + 1) (.int .i64 room) (.slice A3 ys.length cap) = w9 at *
      have hys := HYS.out
      subst hys
      refine bodyPost_ret (v := .tuple #[Tv.val ⟨room, keptE xs st jb bl, A3, cap⟩, .int .i64 ((i - (keptE xs st jb bl).length : Nat) : Int)]) (res_rdrop rfl rfl HT9.out) rfl ⟨A3, cap, rfl, ⟨HQ9.out, HCP.out.2, HCP.out.1, fun x hx => ?_⟩, HB9.out⟩
      have hx : x ∈ keptE xs st jb bl := hx
      exact (HG0.out.ql x (List.mem_filter.1 hx).1).below HB9.out
end Go.Proofs.Ytgclgmfmcgacdaa

/- Proved: lemmas of one statement's proof, merged by program: what each part proves stands ahead of it. Conditions: those that the lemmas name. -/
import Derived.Test.YtgclgmfmcgacdaaM28

/- Plain lemmas: the document's Put, what lies in memory ahead of it, and what it leaves. No condition beyond those that each lemma names. -/
namespace Go.Proofs.Ytgclgmfmcgacdaa
open Go.ChangeShapes Go.WideShapes Go.ChangeAt Go.RowKit

/-- Boxes with a table, a key, a shard, and an empty result behind them. -/
theorem putboxes (s : Tv) (k : Ky) (x : Shd) (w : World) : ∃ W, W = (((w.alloc (.cells #[.int .i64 s.room, .slice s.A s.xs.length s.c] 30)).alloc (.cells #[.int .i64 k.1, .int .u32 k.2] 35)).alloc (.cells #[.int .i64 x.1, .string x.2] 32)).alloc (.cells #[.int .i64 0, .slice none 0 0] 30) ∧ At W w.heap.size 30 [.int .i64 s.room, .slice s.A s.xs.length s.c] ∧ At W (w.heap.size + 1) 35 [.int .i64 k.1, .int .u32 k.2] ∧ At W (w.heap.size + 1 + 1) 32 [.int .i64 x.1, .string x.2] ∧ At W (w.heap.size + 1 + 1 + 1) 30 [.int .i64 0, .slice none 0 0] ∧ Below w.heap.size w W ∧ W.heap.size = w.heap.size + 4 := by
  refine ⟨_, rfl, ?_, ?_, ?_, ?_, ?_, by simp⟩
  · exact (((At.new w 30 [.int .i64 s.room, .slice s.A s.xs.length s.c]).alloc _).alloc _).alloc _
  · have h := At.new (w.alloc (.cells #[.int .i64 s.room, .slice s.A s.xs.length s.c] 30)) 35 [.int .i64 k.1, .int .u32 k.2]
    have h2 := (h.alloc (.cells #[.int .i64 x.1, .string x.2] 32)).alloc (.cells #[.int .i64 0, .slice none 0 0] 30)
    simpa using h2
  · have h := At.new ((w.alloc (.cells #[.int .i64 s.room, .slice s.A s.xs.length s.c] 30)).alloc (.cells #[.int .i64 k.1, .int .u32 k.2] 35)) 32 [.int .i64 x.1, .string x.2]
    have h2 := h.alloc (.cells #[.int .i64 0, .slice none 0 0] 30)
    simpa using h2
  · have h := At.new (((w.alloc (.cells #[.int .i64 s.room, .slice s.A s.xs.length s.c] 30)).alloc (.cells #[.int .i64 k.1, .int .u32 k.2] 35)).alloc (.cells #[.int .i64 x.1, .string x.2] 32)) 30 [.int .i64 0, .slice none 0 0]
    simpa using h
  · exact ((((Below.refl _ _).alloc (Nat.le_refl _) _).alloc (by simp) _).alloc (by simp; omega) _).alloc (by simp; omega) _
theorem res_rput {T : Array Value} {W : World} {b : Nat} {s : Tv} {z : Int} (h2 : T.getD 8 undef = .pointer (some ⟨b, 0, none⟩)) (h3 : T.getD 9 undef = .int .i64 z) (h : At W b 30 [.int .i64 s.room, .slice s.A s.xs.length s.c]) : (results Try.f17 T).run Try.prog W = .ok (.tuple #[s.val, .int .i64 z]) W := by
  have h2' : T[8]?.getD undef = .pointer (some ⟨b, 0, none⟩) := by simpa using h2
  have h3' : T[9]?.getD undef = .int .i64 z := by simpa using h3
  have c0 := h.cell 0 rfl
  have c1 := h.cell 1 rfl
  simp [results, Try.results17, h2', h3', c0, c1, go_sem, Tv.val]
/-- none of the four boxes. -/
def noBx (w : World) (c : Nat → Prop) (g : Nat) : Prop := c g ∧ (g < w.heap.size ∨ w.heap.size + 4 ≤ g)
theorem Tg.noBx {w : World} {c : Nat → Prop} {s : Tv} (h : Tg w c s) : Tg w (Go.Proofs.Ytgclgmfmcgacdaa.noBx w c) s := h.mono fun _ hg e => ⟨e, .inl hg⟩
/-- the document's Put answers. -/
def GivesU (w : World) (c : Nat → Prop) (room : Nat) (r : Int × List Fe) (e : Ending) (w' : World) : Prop := ∃ xs, GivesT w c room xs r.1 e w' ∧ facesE xs = r.2
/-- a table that comes back as it was. -/
theorem u_same {w w1 : World} {c : Nat → Prop} {s : Tv} {x y : Value} {z : Int} {S : List Fe} (hs : Tg w c s) (h : Below w.heap.size w w1) (e : facesE s.xs = S) :
    GivesU w c s.room (z, S) (.returned (.tuple #[.agg #[.int .i64 s.room, .slice s.A s.xs.length s.c], .int .i64 z])) (pset2 w1 (w.heap.size + 1 + 1 + 1) x y) := by
  have b := pset2_below (b := w.heap.size + 1 + 1 + 1) (x := x) (y := y) h (Nat.le_refl _) (by omega)
  exact ⟨s.xs, ⟨s.A, s.c, rfl, hs.below b, b⟩, e⟩
/-- an own row of entries, as a block. -/
theorem evrow_at {w : World} {base n : Nat} {v : Value} {xs : List Ev} (h : w.ownsRow base 76 4 v n (evcells xs)) (hn : 0 < n) :
    ∃ g cap L, v = .slice (some ⟨g, 0, none⟩) n cap ∧ base ≤ g ∧ n ≤ cap ∧ At w g 76 L ∧ L.take (n * 4) = evcells xs := by
  obtain ⟨hl, hv⟩ := h
  rcases hv with ⟨_, h0⟩ | ⟨g, cap, cur, rfl, hb, hg, h1, h2, h3, h4⟩
  · omega
  · exact ⟨g, cap, cur.toList, rfl, hb, h1, by unfold At; simpa using hg, h4⟩
theorem evcells_set {xs : List Ev} {i : Nat} {x y : Ev} (hx : xs[i]? = some x) (hk : y.e.k = x.e.k) (hn : y.e.need = x.e.need) : (evcells xs).set (i * 4 + 3) (.slice y.A y.e.l.length y.c) = evcells (xs.set i y) := by
  induction xs generalizing i with
  | nil => simp at hx
  | cons a t ih =>
    cases i with
    | zero =>
      simp at hx
      subst hx
      show ([_, _, _, _] ++ evcells t).set 3 _ = [_, _, _, _] ++ evcells t
      rw [hk, hn]
      rfl
    | succ i =>
      have := ih (i := i) (by simpa using hx)
      show (a.cells ++ evcells t).set _ _ = a.cells ++ evcells (t.set i y)
      rw [← this, show (i + 1) * 4 + 3 = (i * 4 + 3) + 4 by omega]
      rfl
/-- one entry's shards are others. -/
theorem tg_set {W : World} {c : Nat → Prop} {room g cap i : Nat} {ys : List Ev} {x y : Ev} {L : List Value} (hA : At W g 76 L) (hL : L.take (ys.length * 4) = evcells ys) (hg : c g) (hcap : ys.length ≤ cap)
    (hel : ∀ x ∈ ys, El W (fun q => c q ∧ q ≠ g) x) (hx : ys[i]? = some x) (hy : El W (fun q => c q ∧ q ≠ g) y) (hk : y.e.k = x.e.k) (hn : y.e.need = x.e.need) :
    Tg (W.setCell ⟨g, i * 4 + 3, none⟩ (.slice y.A y.e.l.length y.c)) c ⟨room, ys.set i y, some ⟨g, 0, none⟩, cap⟩ := by
  have t : Tn (fun q => q = g) W (W.setCell ⟨g, i * 4 + 3, none⟩ (.slice y.A y.e.l.length y.c)) := (Tn.refl (fun q => q = g) W).set ⟨g, i * 4 + 3, none⟩ _ (fun _ => rfl)
  refine ⟨cl_at (n := ys.length * 4) (hA.set_ (i * 4 + 3) _) hg ?_, (fun e => nomatch e), by show (ys.set i y).length ≤ cap; rw [List.length_set]; exact hcap, fun z hz => ?_⟩
  · rw [List.take_set, hL]
    exact evcells_set hx hk hn
  · have : El W (fun q => c q ∧ q ≠ g) z := by
      rcases List.mem_or_eq_of_mem_set hz with hz | rfl
      · exact hel z hz
      · exact hy
    exact (this.tn t fun q _ e f => e.2 f).mono fun q _ e => e.1
theorem faces_set {xs : List Ev} {i : Nat} {x y : Ev} {k : Ky} (hk : (xs.map fun x => x.e.k).Nodup) (hx : xs[i]? = some x) (hxk : x.e.k = k) {z : Shd} (hy : y.e = x.e.more z) : facesE (xs.set i y) = (facesE xs).map fun a => if a.k = k then a.more z else a := by
  subst hxk
  induction xs generalizing i with
  | nil => simp at hx
  | cons a t ih =>
    rw [List.map_cons, List.nodup_cons] at hk
    cases i with
    | zero =>
      simp at hx
      subst hx
      show y.e :: facesE t = (if a.e.k = a.e.k then a.e.more z else a.e) :: (facesE t).map _
      rw [if_pos rfl, hy]
      congr 1
      symm
      refine (List.map_congr_left fun e he => ?_).trans (List.map_id _)
      obtain ⟨q, hq, rfl⟩ := List.mem_map.1 he
      rw [if_neg fun e => hk.1 (List.mem_map.2 ⟨q, hq, e⟩)]
      rfl
    | succ i =>
      have hx' : t[i]? = some x := by simpa using hx
      have hne : a.e.k ≠ x.e.k := fun e => hk.1 (List.mem_map.2 ⟨x, List.mem_of_getElem? hx', e.symm⟩)
      show a.e :: facesE (t.set i y) = (if a.e.k = x.e.k then a.e.more z else a.e) :: (facesE t).map _
      rw [if_neg hne, ih hk.2 hx']
theorem size_al (w : World) (o : Obj) : (w.alloc o).heap.size = w.heap.size + 1 := by simp
set_option maxRecDepth 100000 in
set_option maxHeartbeats 1600000 in
theorem rput_bad {w : World} {c : Nat → Prop} {s : Tv} (h : Tg w c s) (k : Ky) (nd : Int) (x : Shd) (hbad : badP nd x = true) :
    Calls Try.prog 17 #[s.val, kyV k, .int .i64 nd, .agg #[.int .i64 x.1, .string x.2]] w (GivesU w c s.room (putF (facesE s.xs) s.room k nd x)) := by
  have e0 : putF (facesE s.xs) s.room k nd x = (5, facesE s.xs) := by unfold putF; rw [if_pos hbad]
  rw [e0]
  obtain ⟨W1, HW, A1, A2, A3, A4, B1, hs⟩ := putboxes s k x w
  have HS := Lib.hid h
  have HB := Lib.hid B1
  have HA4 := Lib.hid A4
  have c0 := A1.cell 0 rfl
  have c1 := A1.cell 1 rfl
  have z0 := A3.cell 0 rfl
  have x0 := A4.cell 0 rfl
  have x1 := A4.cell 1 rfl
  have y0 := A4.free 0
  have y1 := A4.free 1
  have hq : nd < 1 ∨ (¬ nd < 1 ∧ 32 < nd) ∨ (¬ nd < 1 ∧ ¬ 32 < nd ∧ x.1 < 0) ∨ (¬ nd < 1 ∧ ¬ 32 < nd ∧ ¬ x.1 < 0 ∧ 254 < x.1) := by
    unfold badP at hbad
    simp only [Bool.or_eq_true, decide_eq_true_eq] at hbad
    omega
  clear A1 A2 A3 A4 B1 hs h hbad e0
  obtain ⟨room, xs, A, n⟩ := s
  obtain ⟨k0, k1⟩ := k
  obtain ⟨i, t⟩ := x
  show Calls Try.prog 17 #[.agg #[.int .i64 room, .slice A xs.length n], .agg #[.int .i64 k0, .int .u32 k1], .int .i64 nd, .agg #[.int .i64 i, .string t]] w _
  dsimp only at *
  rcases hq with h0 | ⟨h0, h1⟩ | ⟨h0, h1, h2⟩ | ⟨h0, h1, h2, h3⟩
  all_goals
    go_enter Try.func17, Try.ntmps17
    go_upto_region 1 with fail
    rw [← HW]; clear HW
    go_wp2_with fail
    change bodyPost _ _ _ _ _ (pset2 W1 (w.heap.size + 1 + 1 + 1) (.int .i64 room) (.slice A xs.length n))
    exact bodyPost_ret (v := .tuple #[Tv.val ⟨room, xs, A, n⟩, .int .i64 5]) (res_rput rfl rfl (pset2_at HA4.out)) rfl (u_same HS.out HB.out rfl)
end Go.Proofs.Ytgclgmfmcgacdaa

/- Proved: what the document's Put answers. Conditions: those that the theorems name. -/
namespace Go.Proofs.Ytgclgmfmcgacdaa
open Go.ChangeShapes Go.WideShapes Go.ChangeAt Go.RowKit

set_option maxRecDepth 100000 in
set_option maxHeartbeats 3200000 in
theorem rput_none {w : World} {c : Nat → Prop} {s : Tv} (h : Tg w c s) (hc : ∀ g, w.heap.size ≤ g → c g) (ho : SOk (facesE s.xs) s.room) (k : Ky) (nd : Int) (x : Shd) (hb : badP nd x = false) (hf : findF (facesE s.xs) k = none) {r : Int × List Fe} (hr : (if s.xs.length = s.room then (2, facesE s.xs) else (if nd = 1 then 3 else 0, facesE s.xs ++ [⟨k, nd.toNat, [x]⟩])) = r) :
    Calls Try.prog 17 #[s.val, kyV k, .int .i64 nd, .agg #[.int .i64 x.1, .string x.2]] w (GivesU w c s.room r) := by
  obtain ⟨W1, HW, A1, A2, A3, A4, B1, hs⟩ := putboxes s k x w
  have HS := Lib.hid h
  have HB := Lib.hid B1
  have HC := Lib.hid hc
  have HO := Lib.hid ho
  have HAT := Lib.hid (rat_any (h.below B1) ho.few k)
  have HA1 := Lib.hid A1
  have HA2 := Lib.hid A2
  have HA3 := Lib.hid A3
  have HA4 := Lib.hid A4
  have HZ : Hid (W1.heap.size = w.heap.size + 4) := Lib.hid hs
  have c0 := A1.cell 0 rfl
  have c1 := A1.cell 1 rfl
  have k0' := A2.cell 0 rfl
  have k1' := A2.cell 1 rfl
  have z0 := A3.cell 0 rfl
  unfold badP at hb
  simp only [Bool.or_eq_false_iff, decide_eq_false_iff_not] at hb
  obtain ⟨h0, h1, h2, h3⟩ := hb
  obtain ⟨nn, rfl⟩ : ∃ nn : Nat, nd = nn := ⟨nd.toNat, by omega⟩
  have h3' : ¬ 254 < x.1 := by omega
  have hfw : (s.xs.length : Int) ≤ 65536 := by have := ho.few; omega
  have hro : (s.room : Int) ≤ 65536 := by have := ho.room; omega
  have hlr : s.xs.length ≤ s.room := by have := ho.len; rw [List.length_map] at this; exact this
  clear A1 A2 A3 A4 B1 hs h hc ho h3
  obtain ⟨room, xs, A, n⟩ := s
  obtain ⟨k0, k1⟩ := k
  obtain ⟨i, t⟩ := x
  dsimp only at HW HS HO HA1 c0 c1 k0' k1' z0 h2 h3' hfw hro hlr hr hf
  have HAT : Hid (Calls Try.prog 34 #[.agg #[.int .i64 room, .slice A xs.length n], .agg #[.int .i64 k0, .int .u32 k1]] W1 _) := HAT
  show Calls Try.prog 17 #[.agg #[.int .i64 room, .slice A xs.length n], .agg #[.int .i64 k0, .int .u32 k1], .int .i64 nn, .agg #[.int .i64 i, .string t]] w (GivesU w c room r)
  go_enter Try.func17, Try.ntmps17
  go_upto_region 1 with fail
  rw [← HW]; clear HW
  go_wp2_with fail
  refine HAT.out.mono ?_; rintro e w1 ⟨z, rfl, hz, b1⟩
  have A1 := HA1.out.below b1 HA1.out.lt
  have A2 := HA2.out.below b1 HA2.out.lt
  have A3 := HA3.out.below b1 HA3.out.lt
  have A4 := HA4.out.below b1 HA4.out.lt
  have HB1 := Lib.hid (HB.out.trans (b1.mono HB.out.size))
  have HZ1 : Hid (w.heap.size + 4 ≤ w1.heap.size) := Lib.hid (by have := b1.size; have := HZ.out; omega)
  have c0 := A1.cell 0 rfl
  have c1 := A1.cell 1 rfl
  have HP1 := Lib.hid A1
  have HP2 := Lib.hid A2
  have HP3 := Lib.hid A3
  have HP4 := Lib.hid A4
  have HFA := Lib.hid (find_at HO.out.nod hz)
  clear k0' k1' z0 A1 A2 A3 A4 b1 HAT HA1 HA2 HA3 HA4 hz
  rcases HFA.out with ⟨rfl, _⟩ | ⟨_, _, _, _, _, hf'⟩
  · clear hf
    by_cases hfull : xs.length = room
    · rw [if_pos hfull] at hr
      have hle : (room : Int) ≤ (xs.length : Int) := by omega
      have x0 := HP4.out.cell 0 rfl
      have x1 := HP4.out.cell 1 rfl
      have y0 := HP4.out.free 0
      have y1 := HP4.out.free 1
      clear hfull
      go_wp2_with fail
      change bodyPost _ _ _ _ _ (pset2 w1 (w.heap.size + 1 + 1 + 1) (.int .i64 room) (.slice A xs.length n))
      subst hr
      exact bodyPost_ret (v := .tuple #[Tv.val ⟨room, xs, A, n⟩, .int .i64 2]) (res_rput rfl rfl (pset2_at HP4.out)) rfl (u_same HS.out HB1.out rfl)
    · rw [if_neg hfull] at hr
      have hle : ¬ (room : Int) ≤ (xs.length : Int) := by omega
      have hT := HS.out.below HB1.out
      obtain ⟨v2, w2, hr1, ho1, hg1⟩ := run_copy (ty := 28) Try.underlying28 Try.infoE rfl (by decide) (World.ownsRow_nil w1 w1.heap.size 76 4) (c := c) (A := A) (m := xs.length) (cp := n) (ys := evcells xs) (evcells_len xs) hT.qs hT.qn (evcells_one xs) (by omega) (by decide) (Nat.le_refl _)
      rw [Nat.zero_add, List.nil_append] at ho1
      have b2 : Below w1.heap.size w1 w2 := below_grown hg1 (Nat.le_refl _) (by simp [Value.ownBlock])
      have al : Below w1.heap.size w1 (w2.alloc (.cells #[.int .i64 i, .string t] 32)) := b2.alloc b2.size _
      have hSh := At.new w2 32 [.int .i64 i, .string t]
      obtain ⟨v3, w3, hr2, ho2, hg2⟩ := ev_one (ho1.alloc (.cells #[.int .i64 i, .string t] 32)) (by omega) al.size ⟨⟨(k0, k1), nn, [(i, t)]⟩, some ⟨w2.heap.size, 0, none⟩, 1⟩
      rw [size_al] at hr2
      have al2 : Below w1.heap.size w1 ((w2.alloc (.cells #[.int .i64 i, .string t] 32)).alloc (.cells #[.int .i64 k0, .int .u32 k1, .int .i64 nn, .slice (some ⟨w2.heap.size, 0, none⟩) 1 1] 76)) := al.alloc al.size _
      have b3 : Below w1.heap.size w1 w3 := al2.trans (below_grown hg2 al2.size fun g e => (ho1.lt g e).1)
      have hSh3 : At w3 w2.heap.size 32 [.int .i64 i, .string t] := (hSh.alloc _).kept hg2 (fun e => by have := (ho1.lt _ e).2; omega)
      obtain ⟨A2', cap2, rfl, hcap2, hno2, _⟩ := Cl.own (c := fun _ => True) ho1 (fun _ _ => trivial)
      obtain ⟨A3, cap, rfl, hcap, hno, hcl⟩ := Cl.own (c := noBx w c) ho2 (fun g hg => ⟨HC.out g (Nat.le_trans HB1.out.size hg), .inr (Nat.le_trans HZ1.out hg)⟩)
      have hlen : (xs ++ [(⟨⟨(k0, k1), nn, [(i, t)]⟩, some ⟨w2.heap.size, 0, none⟩, 1⟩ : Ev)]).length = xs.length + 1 := by rw [List.length_append]; rfl
      have HB3 := Lib.hid (HB1.out.trans (b3.mono HB1.out.size))
      have HTG : Hid (Tg w3 (noBx w c) ⟨room, xs ++ [⟨⟨(k0, k1), nn, [(i, t)]⟩, some ⟨w2.heap.size, 0, none⟩, 1⟩], A3, cap⟩) := Lib.hid ⟨hcl, hno, by show (xs ++ [_]).length ≤ cap; rw [hlen]; exact hcap, fun z hz => by
        rcases List.mem_append.1 hz with hz | hz
        · exact (HS.out.noBx.ql z hz).below HB3.out
        · rw [List.mem_singleton] at hz; subst hz
          exact ⟨cl_at (n := 2) hSh3 ⟨HC.out _ (Nat.le_trans HB1.out.size b2.size), .inr (Nat.le_trans HZ1.out b2.size)⟩ rfl, Nat.le_refl _, fun e => nomatch e⟩⟩
      have HQ1 := Lib.hid (HP1.out.below b3 HP1.out.lt)
      have HQ4 := Lib.hid (HP4.out.below b3 HP4.out.lt)
      have K2 := HP2.out.below b2 HP2.out.lt
      have X2 := HP3.out.below b2 HP3.out.lt
      have g0 := K2.cell 0 rfl
      have g1 := K2.cell 1 rfl
      have g2 := X2.cell 0 rfl
      have g3 := X2.cell 1 rfl
      have HX : Hid ((xs ++ [(⟨⟨(k0, k1), nn, [(i, t)]⟩, some ⟨w2.heap.size, 0, none⟩, 1⟩ : Ev)])[xs.length]? = some ⟨⟨(k0, k1), nn, [(i, t)]⟩, some ⟨w2.heap.size, 0, none⟩, 1⟩) := Lib.hid (by simp)
      have HFE : Hid (facesE (xs ++ [(⟨⟨(k0, k1), nn, [(i, t)]⟩, some ⟨w2.heap.size, 0, none⟩, 1⟩ : Ev)]) = facesE xs ++ [⟨(k0, k1), nn, [(i, t)]⟩]) := Lib.hid (by simp [facesE])
      have HNN : Hid (1 ≤ nn ∧ nn ≤ 32) := Lib.hid ⟨by omega, by omega⟩
      clear hT b2 al al2 hSh hSh3 ho1 ho2 hg1 hg2 hcap2 hno2 hcap hno hcl K2 X2 hfull hlr b3
      have c1 := HP1.out.cell 1 rfl
      go_upto_region 8 with (at_builtin; refine Lib.wpList_append_run _ rfl _ _ _ _ rfl _ _ rfl rfl _ _ hr1 ?_)
      clear hr1 c0 c1
      go_upto_region 15 with (at_builtin; refine Lib.wpList_append_run _ rfl _ _ _ _ rfl _ _ rfl rfl _ _ hr2 ?_)
      clear hr2 g0 g1 g2 g3
      have hlt' : (xs.length : Int) < ((xs.length + 1 : Nat) : Int) := by omega
      obtain ⟨M, hM⟩ : ∃ M, xs.length + 1 = M := ⟨_, rfl⟩
      obtain ⟨xn, hxn⟩ : ∃ xn : Ev, ⟨⟨(k0, k1), nn, [(i, t)]⟩, some ⟨w2.heap.size, 0, none⟩, 1⟩ = xn := ⟨_, rfl⟩
      have HXR : Hid (xn.e.l.length ≤ xn.e.need ∧ xn.e.need ≤ 32) := Lib.hid (by rw [← hxn]; exact HNN.out)
      obtain ⟨rd, hrd⟩ : ∃ rd, xn.e.ready = rd := ⟨_, rfl⟩
      have HRZ := Lib.hid hrd
      have HRS : Hid ((if rd = true then 3 else 0, facesE xs ++ [⟨(k0, k1), nn, [(i, t)]⟩]) = r) := Lib.hid (by
        rw [← hr, ← hrd, ← hxn]
        unfold Fe.ready
        congr 1
        by_cases e : nn = 1
        · subst e; rfl
        · rw [if_neg (by simp; omega), if_neg (by omega)])
      rw [hxn] at HTG HX HFE
      obtain ⟨ys, hys⟩ : ∃ ys, xs ++ [xn] = ys := ⟨_, rfl⟩
      have HM : Hid (ys.length = M) := Lib.hid (by rw [← hys, ← hM]; simp)
      rw [hys] at HTG HX HFE
      rw [hM] at hlt' ⊢
      clear hys hxn hrd hr hM

      have hgo : ∃ g o, A3 = some ⟨g, o, none⟩ := by
        obtain ⟨g, o, e, _⟩ := HTG.out.at_ HX.out
        exact ⟨g, o, e⟩
      obtain ⟨g, o, rfl⟩ := hgo
      have a1 := HQ1.out.cell 1 rfl
      have f1 := HQ1.out.free 1
      have tn1 : Tn (fun q => q = w.heap.size) w3 (w3.setCell ⟨w.heap.size, 1, none⟩ (.slice (some ⟨g, o, none⟩) M cap)) := (Tn.refl (fun q => q = w.heap.size) w3).set ⟨w.heap.size, 1, none⟩ _ (fun _ => rfl)
      have HTG1 := Lib.hid (HTG.out.tn tn1 fun q _ e f => by have h1 : q = w.heap.size := f; have := e.2; omega)
      have HS1 := Lib.hid (HQ1.out.set_ 1 (.slice (some ⟨g, o, none⟩) M cap))
      have HT1 := Lib.hid (HQ4.out.far (p := ⟨w.heap.size, 1, none⟩) (by show w.heap.size + 1 + 1 + 1 ≠ w.heap.size; omega) (.slice (some ⟨g, o, none⟩) M cap))
      have HB4 := Lib.hid (pset_below (j := 1) (v := .slice (some ⟨g, o, none⟩) M cap) HB3.out (Nat.le_refl _) (Nat.le_refl w.heap.size))
      clear tn1 HTG HQ1 HQ4
      go_upto_region 16 with fail
      change Code.wp _ _ _ _ (w3.setCell ⟨w.heap.size, 1, none⟩ (.slice (some ⟨g, o, none⟩) M cap))
      generalize w3.setCell ⟨w.heap.size, 1, none⟩ (.slice (some ⟨g, o, none⟩) M cap) = w4 at *
      clear a1 f1
      obtain ⟨g', o', e, _, _, hcs⟩ := HTG1.out.at_ HX.out
      injection e with e
      injection e with e1 e2
      subst e1; subst e2
      have d0 := hcs 0 _ rfl
      have d1 := hcs 1 _ rfl
      have d2 := hcs 2 _ rfl
      have d3 := hcs 3 _ rfl
      dsimp only [Nat.add_zero] at d0
      have HRD : Hid (Calls Try.prog 22 #[.agg #[.int .i64 xn.e.k.1, .int .u32 xn.e.k.2, .int .i64 xn.e.need, .slice xn.A xn.e.l.length xn.c]] w4 fun e w' => e = .returned (.bool rd) ∧ Below w4.heap.size w4 w') := Lib.hid (by
        have := rready_any xn HXR.out.1 HXR.out.2 w4
        rw [HRZ.out] at this
        exact this)
      clear hcs
      go_wp2_with fail
      refine HRD.out.mono ?_; rintro e w5 ⟨rfl, b5⟩
      clear d0 d1 d2 d3 HRD
      have HTG5 := Lib.hid (HTG1.out.below b5)
      have S5 := HS1.out.below b5 HS1.out.lt
      have T5 := HT1.out.below b5 HT1.out.lt
      have HB5 := Lib.hid (HB4.out.trans (b5.mono HB4.out.size))
      have s0 := S5.cell 0 rfl
      have s1 := S5.cell 1 rfl
      have t0 := T5.cell 0 rfl
      have t1 := T5.cell 1 rfl
      have u0 := T5.free 0
      have u1 := T5.free 1
      have HT9 := Lib.hid (pset2_at (x := .int .i64 room) (y := .slice (some ⟨g, o, none⟩) M cap) T5)
      have HB9 := Lib.hid (pset2_below (b := w.heap.size + 1 + 1 + 1) (x := .int .i64 room) (y := .slice (some ⟨g, o, none⟩) M cap) HB5.out (Nat.le_refl _) (by omega))
      have HTG9 := Lib.hid ((HTG5.out.tn (pset2_tn w5 (w.heap.size + 1 + 1 + 1) (.int .i64 room) (.slice (some ⟨g, o, none⟩) M cap)) fun q _ e f => by have h1 : q = w.heap.size + 1 + 1 + 1 := f; have := e.2; omega).mono (d := c) fun q _ e => e.1)
      have hrs := HRS.out
      clear S5 T5 HS1 HT1 b5
      cases rd with
      | true =>
        go_wp2_with fail
        change bodyPost _ _ _ _ _ (pset2 w5 (w.heap.size + 1 + 1 + 1) (.int .i64 room) (.slice (some ⟨g, o, none⟩) M cap))
        generalize pset2 w5 (w.heap.size + 1 + 1 + 1) (.int .i64 room) (.slice (some ⟨g, o, none⟩) M cap) = w9 at *
        have hm := HM.out
        subst hm
        subst hrs
        exact bodyPost_ret (v := .tuple #[Tv.val ⟨room, ys, some ⟨g, o, none⟩, cap⟩, .int .i64 3]) (res_rput rfl rfl HT9.out) rfl ⟨ys, ⟨some ⟨g, o, none⟩, cap, rfl, HTG9.out, HB9.out⟩, HFE.out⟩
      | false =>
        go_wp2_with fail
        change bodyPost _ _ _ _ _ (pset2 w5 (w.heap.size + 1 + 1 + 1) (.int .i64 room) (.slice (some ⟨g, o, none⟩) M cap))
        generalize pset2 w5 (w.heap.size + 1 + 1 + 1) (.int .i64 room) (.slice (some ⟨g, o, none⟩) M cap) = w9 at *
        have hm := HM.out
        subst hm
        subst hrs
        exact bodyPost_ret (v := .tuple #[Tv.val ⟨room, ys, some ⟨g, o, none⟩, cap⟩, .int .i64 0]) (res_rput rfl rfl HT9.out) rfl ⟨ys, ⟨some ⟨g, o, none⟩, cap, rfl, HTG9.out, HB9.out⟩, HFE.out⟩
  · rw [hf] at hf'; cases hf'
end Go.Proofs.Ytgclgmfmcgacdaa

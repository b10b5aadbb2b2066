/- Proved: what the document's Push answers where an item is taken. Conditions: those that the theorems name. -/
import Derived.Test.YtplbdeaoeocgkaaDpPush
namespace Go.Proofs.Ytplbdeaoeocgkaa
open Go.ChangeShapes Go.WideShapes Go.ChangeAt Go.RowKit

/-- a queue ahead of an item that comes in. -/
def preQ (q : Qd) : Qd := if q.l = [] then ⟨q.id, q.w, 0, false, q.l⟩ else q
theorem preQ_id (q : Qd) : (preQ q).id = q.id := by unfold preQ; split <;> rfl
theorem preQ_l (q : Qd) : (preQ q).l = q.l := by unfold preQ; split <;> rfl
theorem moreQ_pre (q : Qd) (x : It) : moreQ q x = { preQ q with l := q.l ++ [x] } := by
  unfold moreQ preQ
  split
  · rename_i h; rw [h]; rfl
  · rfl
/-- the round with a number at its end, where its queue had no item. -/
def preR (rd : List Int) (q : Qd) (id : Int) : List Int := if q.l = [] then outL rd id ++ [id] else rd
/-- what lies in memory ahead of the item. -/
structure PMid (w : World) (c : Nat → Prop) (s : Sv) (q : Qv) (x : It) (qb : Nat) (wx : World) : Prop where
  sb : ∃ B d, At wx w.heap.size 31 [.int .i64 s.Q, .slice s.A s.xs.length s.c, .slice B (preR s.rd q.q x.1).length d] ∧ Cl wx (fun g => c g ∧ g ≠ w.heap.size ∧ g ≠ w.heap.size + 1 + 1 ∧ g ≠ qb) B (zcells (preR s.rd q.q x.1)) ∧ (preR s.rd q.q x.1).length ≤ d ∧ (B = none → d = 0)
  q : At wx qb 68 [.int .i64 (preQ q.q).id, .int .i64 (preQ q.q).w, .int .i64 (preQ q.q).d, .bool (preQ q.q).s, .slice q.A q.q.l.length q.c]
  it : At wx (w.heap.size + 1) 35 [.int .i64 x.1, .int .i64 x.2]
  re : At wx (w.heap.size + 1 + 1) 31 [.int .i64 0, .slice none 0 0, .slice none 0 0]
  bel : Below w.heap.size w wx
theorem Cl.there {w : World} {c : Nat → Prop} {A : Option Addr} {xs : List Value} (h : Cl w c A xs) : Cl w (fun g => c g ∧ g < w.heap.size) A xs := fun h0 => by
  obtain ⟨g, o, e, hc, hl, hx⟩ := h h0
  exact ⟨g, o, e, ⟨hc, hl⟩, hl, hx⟩
theorem Sg.there {w : World} {c : Nat → Prop} {s : Sv} (h : Sg w c s) : Sg w (fun g => c g ∧ g < w.heap.size) s := ⟨h.qs.there, h.qn, h.qc, fun x hx => ⟨(h.ql x hx).cl.there, (h.ql x hx).cap, (h.ql x hx).no⟩, h.rs.there, h.rn, h.rc⟩
theorem pset3_tn (W : World) (b : Nat) (x y z : Value) : Tn (fun g => g = b) W (pset3 W b x y z) := (((Tn.refl (fun g => g = b) W).set ⟨b, 0, none⟩ x (fun _ => rfl)).set ⟨b, 1, none⟩ y (fun _ => rfl)).set ⟨b, 2, none⟩ z (fun _ => rfl)
/-- an item more behind an own row. -/
theorem i_one {w : World} {base n : Nat} {v : Value} {l : List It} (h : w.ownsRow base 35 2 v n (itcells l)) (hn : n ≤ 66000) (hbase : base ≤ w.heap.size) (x : It) :
    ∃ v' w', (Builtin.append_ #[64, 64] 64 #[v, .slice (some ⟨w.heap.size, 0, none⟩) 1 1]).run Try.prog (w.alloc (.cells #[.int .i64 x.1, .int .i64 x.2] 35)) = .ok v' w' ∧ w'.ownsRow base 35 2 v' (n + 1) (itcells (l ++ [x])) ∧ (w.alloc (.cells #[.int .i64 x.1, .int .i64 x.2] 35)).grownBy w' v.ownBlock := by
  have hA := At.new w 35 (itcells [x])
  obtain ⟨v', w', hr, ho, hg⟩ := run_copy (ty := 64) Try.underlying64 infoIt rfl (by decide) (h.alloc (.cells #[.int .i64 x.1, .int .i64 x.2] 35)) (c := fun _ => True) (A := some ⟨w.heap.size, 0, none⟩) (m := 1) (cp := 1) (ys := itcells [x]) rfl (cl_at (n := 2) hA trivial rfl) (fun e => nomatch e) (itcells_one _) (by omega) (by decide) (Nat.le_trans hbase (by simp))
  exact ⟨v', w', hr, by rw [itcells_app]; exact ho, hg⟩
/-- a number more behind a row that was made since w. -/
theorem out_after {w w5 : World} {l : List Int} {v : Value} (ho : w5.ownsRow w.heap.size 3 1 v l.length (zcells l)) (hb : Below w.heap.size w w5) (hn : l.length ≤ 60000) (x : Int) :
    ∃ A cap w6, (Builtin.append_ #[29, 29] 29 #[v, .slice (some ⟨w5.heap.size, 0, none⟩) 1 1]).run Try.prog (w5.alloc (.cells #[.int .i64 x] 3)) = .ok (.slice A (l ++ [x]).length cap) w6 ∧ (l ++ [x]).length ≤ cap ∧ (A = none → cap = 0) ∧ Cl w6 (fun g => w.heap.size ≤ g) A (zcells (l ++ [x])) ∧ Below w.heap.size w w6 := by
  obtain ⟨v', w6, hr, ho2, hg⟩ := zr_one ho hn hb.size x
  obtain ⟨A, cap, rfl, h1, h2, h3⟩ := Cl.own (c := fun g => w.heap.size ≤ g) ho2 (fun g hg => hg)
  exact ⟨A, cap, w6, hr, h1, h2, h3, (hb.alloc hb.size _).trans (below_grown hg (Nat.le_trans hb.size (by simp)) fun g e => (ho.lt g e).1)⟩
theorem out_ahead {w w5 : World} {l : List Int} {v : Value} (x : Int) (ho : w5.ownsRow (w.alloc (.cells #[.int .i64 x] 3)).drew.heap.size 3 1 v l.length (zcells l)) (hb : Below (w.alloc (.cells #[.int .i64 x] 3)).drew.heap.size (w.alloc (.cells #[.int .i64 x] 3)).drew w5) (hn : l.length ≤ 60000) :
    ∃ A cap w6, (Builtin.append_ #[29, 29] 29 #[v, .slice (some ⟨w.heap.size, 0, none⟩) 1 1]).run Try.prog w5 = .ok (.slice A (l ++ [x]).length cap) w6 ∧ (l ++ [x]).length ≤ cap ∧ (A = none → cap = 0) ∧ Cl w6 (fun g => w.heap.size ≤ g) A (zcells (l ++ [x])) ∧ Below w.heap.size w w6 := by
  have hA : At (w.alloc (.cells #[.int .i64 x] 3)).drew w.heap.size 3 [.int .i64 x] := At.new w 3 [.int .i64 x]
  have hA5 := hA.below hb hA.lt
  have hsz : (w.alloc (.cells #[.int .i64 x] 3)).drew.heap.size = w.heap.size + 1 := by simp [World.drew]
  obtain ⟨v', w6, hr, ho2, hg⟩ := run_copy (ty := 29) Try.underlying29 Try.zInfo rfl (by decide) ho (c := fun _ => True) (A := some ⟨w.heap.size, 0, none⟩) (m := 1) (cp := 1) (ys := zcells [x]) rfl (cl_at (n := 1) hA5 trivial rfl) (fun e => nomatch e) (fun u hu => by simp [zcells] at hu; subst hu; rfl) (by omega) (by decide) hb.size
  obtain ⟨A, cap, rfl, h1, h2, h3⟩ := Cl.own (c := fun g => w.heap.size ≤ g) ho2 (fun g hg => by omega)
  have hb0 : Below w.heap.size w (w.alloc (.cells #[.int .i64 x] 3)).drew := ((Below.refl _ _).alloc (Nat.le_refl _) _).drew
  refine ⟨A, cap, w6, ?_, ?_, h2, ?_, (hb0.trans (hb.mono (by omega))).trans (below_grown hg (by have := hb.size; omega) fun g e => by have := (ho.lt g e).1; omega)⟩
  · rw [List.length_append]; exact hr
  · rw [List.length_append]; exact h1
  · rw [← zcells_snoc]; exact h3
set_option maxRecDepth 100000 in
set_option maxHeartbeats 1600000 in
theorem rpush_yes {w : World} {c : Nat → Prop} {s : Sv} {W : List (Int × Int)} {R : List Qd} {Q M : Int} (h : Sg w c s) (hc : ∀ g, w.heap.size ≤ g → c g) (r : DRel s.xs s.rd W R) (k : Ok Q M W R) (x : It) {i : Nat} {q : Qv} (hq : s.xs[i]? = some q) (hi : q.q.id = x.1) (h0 : pushE W R x = 0) (h1 : 1 ≤ x.2) (h2 : x.2 ≤ 65536) (h3 : q.q.l.length < 65536) :
    Calls Try.prog 20 #[s.val, .agg #[.int .i64 x.1, .int .i64 x.2]] w (GivesP w c s.Q W (push W R x) 0) := by
  obtain ⟨W1, HW, A1, A2, A3, B1, hs⟩ := pboxes3 s x w
  have HDR := Lib.hid (fun A c => r.push k hq hi.symm h0 A c)
  have HS := Lib.hid (And.intro h r)
  have HB := Lib.hid B1
  have HA1 := Lib.hid A1
  have HA2 := Lib.hid A2
  have HA3 := Lib.hid A3
  have HFW := Lib.hid (r.few k)
  have HFR := Lib.hid (r.fewR k)
  have HND := Lib.hid (r.nodup k)
  have HC := Lib.hid hc
  have HSZ : Hid (W1.heap.size = w.heap.size + 3) := Lib.hid hs
  have HAT := Lib.hid (rat_any (h.below B1) (r.few k) x.1)
  have HQI := Lib.hid (And.intro hq hi)
  have c0 := A1.cell 0 rfl
  have c1 := A1.cell 1 rfl
  have c2 := A1.cell 2 rfl
  have i0 := A2.cell 0 rfl
  have i1 := A2.cell 1 rfl
  generalize push W R x = R' at *
  obtain ⟨Q', xs, A, m, rd, B, d⟩ := s
  obtain ⟨xi, xz⟩ := x
  obtain ⟨⟨qi, qw, qd, qs, ql⟩, qA, qc⟩ := q
  dsimp only at hi h1 h2 h3
  subst hi
  have h4 : decide ((65536 : Int) ≤ ql.length) = false := by have h3 : ql.length < 65536 := h3; simp; omega
  have HL3 : Hid (ql.length < 65536) := Lib.hid h3
  have h5 : ¬ xz < 1 := by omega
  have h6 : ¬ 65536 < xz := by omega
  clear A1 A2 A3 B1 hs h r k hc h0 hq h3 h1 h2
  have HAT : Hid (Calls Try.prog 22 #[.agg #[.int .i64 Q', .slice A xs.length m, .slice B rd.length d], .int .i64 qi] W1 _) := HAT
  show Calls Try.prog 20 #[.agg #[.int .i64 Q', .slice A xs.length m, .slice B rd.length d], .agg #[.int .i64 qi, .int .i64 xz]] w _
  dsimp only at HW HFW HFR HS HA1 HA2 HA3 HND HQI HDR c0 c1 c2 i0 i1
  go_enter Try.func20, Try.ntmps20
  go_upto_region 1 with fail
  rw [← HW]; clear HW
  go_wp2_with fail
  refine HAT.out.mono ?_; rintro e w1 ⟨z, rfl, hz, b1⟩
  have hzi := hz.is HND.out HQI.out.1 rfl
  subst hzi
  have A1 := HA1.out.below b1 HA1.out.lt
  have A2 := HA2.out.below b1 HA2.out.lt
  have A3 := HA3.out.below b1 HA3.out.lt
  have HB1 := Lib.hid (HB.out.trans (b1.mono HB.out.size))
  have c0 := A1.cell 0 rfl
  have c1 := A1.cell 1 rfl
  have c2 := A1.cell 2 rfl
  have i0 := A2.cell 0 rfl
  have i1 := A2.cell 1 rfl
  have HP1 := Lib.hid A1
  have HP2 := Lib.hid A2
  have HP3 := Lib.hid A3
  obtain ⟨g, o, e, _, hgl, hcs⟩ := (HS.out.1.below HB1.out).at_ HQI.out.1
  have e : A = some ⟨g, o, none⟩ := e
  subst e
  have d0 := hcs 0 _ rfl
  have d1 := hcs 1 _ rfl
  have d2 := hcs 2 _ rfl
  have d3 := hcs 3 _ rfl
  have d4 := hcs 4 _ rfl
  dsimp only [Nat.add_zero] at d0 d1 d2 d3 d4
  have hil := (List.getElem?_eq_some_iff.1 HQI.out.1).1
  have hi0 : (0 : Int) ≤ (i : Int) := Int.natCast_nonneg _
  have hi1 : (i : Int) < (xs.length : Int) := by have hil : i < xs.length := hil; omega
  have hi2 : (i : Int) ≤ 300 := by have := HFW.out; omega
  have HZ1 : Hid (w.heap.size + 3 ≤ w1.heap.size) := Lib.hid (by have := HSZ.out; have := b1.size; omega)
  have HA := Lib.hid (And.intro (And.intro A1 (And.intro A2 A3)) HSZ.out)
  clear A1 A2 A3 b1 HAT HA1 HA2 HA3 hz hcs hil hgl HB
  generalize hlq : ql.length = lq at *
  have HLQ := Lib.hid hlq
  clear hlq
  go_upto_if 45 with fail
  obtain ⟨Mid, hmid⟩ : ∃ Mid : World → Prop, Mid = PMid w c ⟨Q', xs, some ⟨g, o, none⟩, m, rd, B, d⟩ ⟨⟨qi, qw, qd, qs, ql⟩, qA, qc⟩ (qi, xz) w1.heap.size := ⟨_, rfl⟩
  have HMID := Lib.hid hmid
  clear hmid
  go_cut [] (fun wx => Mid wx)
  case first =>
    by_cases hl0 : lq = 0
    · have hl1 : ((lq : Int) == 0) = true := by simpa using hl0
      have hql : ql = [] := List.eq_nil_of_length_eq_zero (by rw [HLQ.out]; exact hl0)
      have HPR : Hid (preR rd ⟨qi, qw, qd, qs, ql⟩ qi = outL rd qi ++ [qi]) := Lib.hid (if_pos hql)
      have HPQ : Hid (preQ ⟨qi, qw, qd, qs, ql⟩ = ⟨qi, qw, 0, false, ql⟩) := Lib.hid (if_pos hql)
      clear hl0 hql
      go_upto_region 12 with fail
      have HB2 := Lib.hid (HB1.out.alloc HB1.out.size (.cells #[.int .i64 qi, .int .i64 qw, .int .i64 0, .bool false, .slice qA lq qc] 68))
      have b2 := (Below.refl w1.heap.size w1).alloc (Nat.le_refl _) (.cells #[.int .i64 qi, .int .i64 qw, .int .i64 0, .bool false, .slice qA lq qc] 68)
      have S2 := HP1.out.below b2 HP1.out.lt
      have HE2 := Lib.hid (HP3.out.below b2 HP3.out.lt)
      have I2 := HP2.out.below b2 HP2.out.lt
      have HI2 := Lib.hid I2
      have HS2 := Lib.hid S2
      have HQ2 := Lib.hid (At.new w1 68 [.int .i64 qi, .int .i64 qw, .int .i64 0, .bool false, .slice qA lq qc])
      have HSZ2 : Hid ((w1.alloc (.cells #[.int .i64 qi, .int .i64 qw, .int .i64 0, .bool false, .slice qA lq qc] 68)).heap.size = w1.heap.size + 1) := Lib.hid (by simp)
      have s2 := S2.cell 2 rfl
      have j0 := I2.cell 0 rfl
      clear b2 S2 I2 c0 c1 c2 i0 i1 d0 d1 d2 d3 d4
      have HBR : Hid (Cl (w1.alloc (.cells #[.int .i64 qi, .int .i64 qw, .int .i64 0, .bool false, .slice qA lq qc] 68)) c B (zcells rd)) := Lib.hid (HS.out.1.below HB2.out).rs
      generalize w1.alloc (.cells #[.int .i64 qi, .int .i64 qw, .int .i64 0, .bool false, .slice qA lq qc] 68) = w2 at *
      have HD0 : Hid (Below w2.heap.size w2 w2.drew) := Lib.hid (Below.refl _ _).drew
      have HD1 : Hid (Below w2.heap.size w2 (w2.alloc (.cells #[.int .i64 qi] 3)).drew) := Lib.hid ((Below.refl _ _).alloc (Nat.le_refl _) _).drew
      have HLO : Hid ((outL rd qi).length ≤ 60000) := Lib.hid (Nat.le_trans (outL_len _ _) (by have := HFR.out; omega))
      have HWO : Hid (∀ V, Below w2.heap.size w2 V → Calls Try.prog 28 #[.slice B rd.length d, .int .i64 qi] V fun e w' => ∃ v, e = .returned v ∧ w'.ownsRow V.heap.size 3 1 v (outL rd qi).length (zcells (outL rd qi)) ∧ Below V.heap.size V w') := Lib.hid fun V hV => rwithout_any (HBR.out.below hV) HFR.out qi
      have k1 := (HI2.out.below HD1.out HI2.out.lt).cell 0 rfl
      have k2 := (HS2.out.below HD1.out HS2.out.lt).cell 2 rfl
      go_region_law (first
        | (refine step_append_run rfl _ _ _ _ rfl _ _ rfl rfl _ _ hr ?_)
        | (go_simp; go_at_call 28; refine (HWO.out _ HD0.out).mono ?_; rintro e w5 ⟨v, rfl, hown, hbl⟩; have j5 := (HI2.out.below (HD0.out.trans hbl) HI2.out.lt).cell 0 rfl; obtain ⟨A6, cap6, w6, hr, h61, h62, h63, h64⟩ := out_after (w := w2) hown (HD0.out.trans hbl) HLO.out qi; have H6 := Lib.hid (And.intro h61 (And.intro h62 (And.intro h63 h64))); have S6 := HS2.out.below h64 HS2.out.lt; have s6 := S6.cell 2 rfl; have f6 := S6.free 2; have j6 := (HI2.out.below h64 HI2.out.lt).cell 0 rfl; have HS6 := Lib.hid S6; clear hown hbl h61 h62 h63 h64 S6)
        | (go_simp; go_at_call 28; refine (HWO.out _ HD1.out).mono ?_; rintro e w5 ⟨v, rfl, hown, hbl⟩; have j5 := (HI2.out.below (HD1.out.trans (hbl.mono HD1.out.size)) HI2.out.lt).cell 0 rfl; obtain ⟨A6, cap6, w6, hr, h61, h62, h63, h64⟩ := out_ahead (w := w2) qi hown hbl HLO.out; have H6 := Lib.hid (And.intro h61 (And.intro h62 (And.intro h63 h64))); have S6 := HS2.out.below h64 HS2.out.lt; have s6 := S6.cell 2 rfl; have f6 := S6.free 2; have j6 := (HI2.out.below h64 HI2.out.lt).cell 0 rfl; have HS6 := Lib.hid S6; clear hown hbl h61 h62 h63 h64 S6))
      all_goals
        go_wp2_with fail
        go_meet
        rw [HMID.out]
        have hsz := HSZ2.out
        have hz1 := HZ1.out
        have h64 := H6.out.2.2.2
        have tn6 : Tn (fun g => g = w.heap.size) w6 (w6.setCell ⟨w.heap.size, 2, none⟩ (.slice A6 ((outL rd qi).length + 1) cap6)) := (Tn.refl _ w6).set ⟨w.heap.size, 2, none⟩ _ (fun _ => rfl)
        have i6 := (HI2.out.below h64 HI2.out.lt).tn tn6 (fun (e : w.heap.size + 1 = w.heap.size) => by omega)
        have e6 := (HE2.out.below h64 HE2.out.lt).tn tn6 (fun (e : w.heap.size + 1 + 1 = w.heap.size) => by omega)
        refine ⟨⟨A6, cap6, ?_, ?_, ?_, H6.out.2.1⟩, ?_, i6, e6, pset_below (HB2.out.trans (h64.mono HB2.out.size)) (Nat.le_refl _) (Nat.le_refl _)⟩
        · dsimp only
          rw [HPR.out, List.length_append]; exact HS6.out.set_ 2 _
        · dsimp only
          rw [HPR.out]
          exact (H6.out.2.2.1.tn tn6 fun g _ e f => by omega).mono fun g _ e => ⟨HC.out g (by omega), by omega, by omega, by omega⟩
        · dsimp only
          rw [HPR.out]; exact H6.out.1
        · dsimp only
          rw [HPQ.out, HLQ.out]; exact (HQ2.out.below h64 HQ2.out.lt).tn tn6 (fun (e : w1.heap.size = w.heap.size) => by omega)
    · have hl1 : ((lq : Int) == 0) = false := by simpa using hl0
      have hql : ql ≠ [] := fun e => hl0 (by rw [← HLQ.out, e]; rfl)
      have HPR : Hid (preR rd ⟨qi, qw, qd, qs, ql⟩ qi = rd) := Lib.hid (if_neg hql)
      have HPQ : Hid (preQ ⟨qi, qw, qd, qs, ql⟩ = ⟨qi, qw, qd, qs, ql⟩) := Lib.hid (if_neg hql)
      clear hl0 hql
      go_wp2_with fail
      go_meet
      rw [HMID.out]
      have b2 := (Below.refl w1.heap.size w1).alloc (Nat.le_refl _) (.cells #[.int .i64 qi, .int .i64 qw, .int .i64 qd, .bool qs, .slice qA lq qc] 68)
      have hb2 := HB1.out.trans (b2.mono HB1.out.size)
      have hs2 := HS.out.1.below hb2
      refine ⟨⟨B, d, ?_, ?_, ?_, hs2.rn⟩, ?_, HP2.out.below b2 HP2.out.lt, HP3.out.below b2 HP3.out.lt, hb2⟩
      · dsimp only
        rw [HPR.out]; exact HP1.out.below b2 HP1.out.lt
      · dsimp only
        rw [HPR.out]
        have hz1 := HZ1.out
        exact (HS.out.1.rs.there.below hb2).mono fun g _ e => ⟨e.1, by omega, by omega, by omega⟩
      · dsimp only
        rw [HPR.out]; exact hs2.rc
      · dsimp only
        rw [HPQ.out, HLQ.out]; exact At.new w1 68 [.int .i64 qi, .int .i64 qw, .int .i64 qd, .bool qs, .slice qA lq qc]
  case rest =>
    rw [HMID.out] at hcut
    obtain ⟨⟨B5, d5, S5, C5, hd5, hB5⟩, Q5, I5, E5, b5⟩ := hcut
    have hz1 := HZ1.out
    have HDR2 := Lib.hid HDR.out
    have hdr : ∀ (A : Option Addr) (c : Nat), DRel (xs.set i ⟨{ preQ ⟨qi, qw, qd, qs, ql⟩ with l := ql ++ [(qi, xz)] }, A, c⟩) (preR rd ⟨qi, qw, qd, qs, ql⟩ qi) W R' := fun A c => by
      have := HDR.out A c
      rw [moreQ_pre] at this
      exact this
    dsimp only at S5 C5 hd5 hB5 Q5 I5 E5
    have hpid : (preQ ⟨qi, qw, qd, qs, ql⟩).l = ql := preQ_l _
    generalize preR rd ⟨qi, qw, qd, qs, ql⟩ qi = rd5 at *
    generalize preQ ⟨qi, qw, qd, qs, ql⟩ = p at *
    obtain ⟨pi, pw, pd, ps, pl⟩ := p
    dsimp only at hdr Q5
    have hcl := (HS.out.1.below b5)
    have hqx := hcl.ql _ (List.mem_of_getElem? HQI.out.1)
    rw [HLQ.out] at Q5
    obtain ⟨v6, w6, hr1, ho1, hg1⟩ := run_copy (ty := 64) Try.underlying64 infoIt rfl (by decide) (World.ownsRow_nil wc wc.heap.size 35 2) (c := c) (A := qA) (m := lq) (cp := qc) (ys := itcells ql) (by rw [itcells_len, HLQ.out]) hqx.cl hqx.no (itcells_one ql) (by have := HL3.out; omega) (by decide) (Nat.le_refl _)
    rw [Nat.zero_add, List.nil_append] at ho1
    have b6 : Below wc.heap.size wc w6 := below_grown hg1 (Nat.le_refl _) (by simp [Value.ownBlock])
    obtain ⟨v7, w7, hr2, ho2, hg2⟩ := i_one ho1 (by have := HL3.out; omega) b6.size (qi, xz)
    have b7 : Below wc.heap.size wc w7 := (b6.alloc b6.size _).trans (below_grown hg2 (Nat.le_trans b6.size (by simp)) fun g e => (ho1.lt g e).1)
    obtain ⟨A7, cap7, rfl, hcap7, hno7, hcl7⟩ := Cl.own (c := fun g => wc.heap.size ≤ g) ho2 (fun g hg => hg)
    have hqb := Q5.lt
    have S7 := S5.below b7 S5.lt
    have Q7 := Q5.below b7 Q5.lt
    have E7 := E5.below b7 E5.lt
    have I6 := I5.below b6 I5.lt
    have p4 := Q5.cell 4 rfl
    have i60 := I6.cell 0 rfl
    have i61 := I6.cell 1 rfl
    have q74 := Q7.cell 4 rfl
    have f74 := Q7.free 4
    have tn8 : Tn (fun g => g = w1.heap.size) w7 (w7.setCell ⟨w1.heap.size, 4, none⟩ (.slice A7 (lq + 1) cap7)) := (Tn.refl _ w7).set ⟨w1.heap.size, 4, none⟩ _ (fun _ => rfl)
    have HS8 := Lib.hid (S7.tn tn8 (by omega))
    have HE8 := Lib.hid (E7.tn tn8 (by omega))
    have HQ8 := Lib.hid (Q7.set_ 4 (.slice A7 (lq + 1) cap7))
    have HB8 := Lib.hid (pset_below (j := 4) (v := .slice A7 (lq + 1) cap7) (b5.trans (b7.mono b5.size)) (Nat.le_refl _) (by omega : w.heap.size ≤ w1.heap.size))
    have HC8 := Lib.hid (((C5.below b7).tn tn8 fun g _ e f => e.2.2.2 f).mono (d := fun g => c g ∧ g ≠ w.heap.size + 1 + 1) fun g _ e => ⟨e.1, e.2.2.1⟩)
    have HI8 := Lib.hid ((hcl7.tn tn8 fun g _ e f => by omega).mono (d := fun g => c g ∧ g ≠ w.heap.size + 1 + 1) fun g _ e => ⟨HC.out g (by have := b5.size; omega), by have := b5.size; omega⟩)
    have HCP := Lib.hid (And.intro hcap7 (And.intro hno7 (And.intro hd5 hB5)))
    have HDRF := Lib.hid hdr
    clear S5 C5 hd5 hB5 Q5 I5 E5 b5 hdr hcl hqx ho1 hg1 b6 ho2 hg2 b7 hcap7 hno7 hcl7 hqb S7 Q7 E7 I6 tn8 HDR HDR2 hpid
    go_upto_region 15 with (at_builtin; refine Lib.wpList_append_run _ rfl _ _ _ _ rfl _ _ rfl rfl _ _ hr1 ?_)
    clear hr1 p4
    go_upto_region 16 with (at_builtin; refine Lib.wpList_append_run _ rfl _ _ _ _ rfl _ _ rfl rfl _ _ hr2 ?_)
    clear hr2 i60 i61 q74 f74
    generalize w7.setCell ⟨w1.heap.size, 4, none⟩ (.slice A7 (lq + 1) cap7) = w8 at *
    have hyl : (ql ++ [(qi, xz)]).length = lq + 1 := by rw [List.length_append, HLQ.out]; rfl
    have hS8 := (HS.out.1.there.below HB8.out).mono (d := fun g => c g ∧ g ≠ w.heap.size + 1 + 1) fun g _ e => ⟨e.1, by omega⟩
    have hil := (List.getElem?_eq_some_iff.1 HQI.out.1).1
    have hset := rset_any (w := w8) (c := fun g => c g ∧ g ≠ w.heap.size + 1 + 1) (s := ⟨Q', xs, some ⟨g, o, none⟩, m, rd5, B5, d5⟩) ⟨hS8.qs, hS8.qn, hS8.qc, hS8.ql, HC8.out, HCP.out.2.2.2, HCP.out.2.2.1⟩ (fun g hg => ⟨HC.out g (Nat.le_trans HB8.out.size hg), by have := HE8.out.lt; omega⟩) HFW.out hil ⟨⟨pi, pw, pd, ps, ql ++ [(qi, xz)]⟩, A7, cap7⟩ ⟨HI8.out, by dsimp only; rw [hyl]; exact HCP.out.1, HCP.out.2.1⟩
    have hsl : (xs.set i ⟨⟨pi, pw, pd, ps, ql ++ [(qi, xz)]⟩, A7, cap7⟩).length = xs.length := List.length_set
    have HDRY := Lib.hid (HDRF.out A7 cap7)
    dsimp only at hset
    generalize xs.set i ⟨⟨pi, pw, pd, ps, ql ++ [(qi, xz)]⟩, A7, cap7⟩ = ys at *
    have HSET : Hid (Calls Try.prog 29 #[.agg #[.int .i64 Q', .slice (some ⟨g, o, none⟩) xs.length m, .slice B5 rd5.length d5], .int .i64 i, .agg #[.int .i64 pi, .int .i64 pw, .int .i64 pd, .bool ps, .slice A7 (lq + 1) cap7]] w8 fun e w' => ∃ A n, e = .returned (.agg #[.int .i64 Q', .slice A xs.length n, .slice B5 rd5.length d5]) ∧ Sg w' (fun g => c g ∧ g ≠ w.heap.size + 1 + 1) ⟨Q', ys, A, n, rd5, B5, d5⟩ ∧ Below w8.heap.size w8 w') := Lib.hid (by
      rw [← hyl]
      refine hset.mono ?_
      rintro e w' ⟨A, n, rfl, h1, h2⟩
      exact ⟨A, n, by unfold Sv.val; dsimp only; rw [hsl], h1, h2⟩)
    have HSL := Lib.hid hsl
    clear hset hS8 hil hyl hsl HDRF
    have s80 := HS8.out.cell 0 rfl
    have s81 := HS8.out.cell 1 rfl
    have s82 := HS8.out.cell 2 rfl
    have q80 := HQ8.out.cell 0 rfl
    have q81 := HQ8.out.cell 1 rfl
    have q82 := HQ8.out.cell 2 rfl
    have q83 := HQ8.out.cell 3 rfl
    have q84 := HQ8.out.cell 4 rfl
    go_wp2_with (go_at_call 29; refine HSET.out.mono ?_; rintro e w9 ⟨A9, n9, rfl, g9, b9⟩; have E9 := HE8.out.below b9 HE8.out.lt; have e0 := E9.cell 0 rfl; have e1 := E9.cell 1 rfl; have e2 := E9.cell 2 rfl; have f0 := E9.free 0; have f1 := E9.free 1; have f2 := E9.free 2; have HE9 := Lib.hid E9; have HG9 := Lib.hid g9; have HB9 := Lib.hid (HB8.out.trans (b9.mono HB8.out.size)); clear E9 g9 b9)
    change bodyPost _ _ _ _ _ (pset3 w9 (w.heap.size + 1 + 1) (.int .i64 Q') (.slice A9 xs.length n9) (.slice B5 rd5.length d5))
    have hE := pset3_at (x := .int .i64 Q') (y := .slice A9 xs.length n9) (z := .slice B5 rd5.length d5) HE9.out
    have tn9 := pset3_tn w9 (w.heap.size + 1 + 1) (.int .i64 Q') (.slice A9 xs.length n9) (.slice B5 rd5.length d5)
    have hB := pset3_below (b := w.heap.size + 1 + 1) (x := .int .i64 Q') (y := .slice A9 xs.length n9) (z := .slice B5 rd5.length d5) HB9.out (Nat.le_refl _) (by omega)
    have hG := (HG9.out.tn tn9 fun g _ e f => e.2 f).mono (d := c) fun g _ e => e.1
    generalize pset3 w9 (w.heap.size + 1 + 1) (.int .i64 Q') (.slice A9 xs.length n9) (.slice B5 rd5.length d5) = w10 at *
    refine bodyPost_ret (v := .tuple #[Sv.val ⟨Q', ys, A9, n9, rd5, B5, d5⟩, .int .i64 0]) (res_rpush rfl rfl ?_) rfl ⟨⟨Q', ys, A9, n9, rd5, B5, d5⟩, rfl, hG, HDRY.out, rfl, hB⟩
    dsimp only
    rw [HSL.out]; exact hE
theorem rpush_any {w : World} {c : Nat → Prop} {s : Sv} {W : List (Int × Int)} {R : List Qd} {Q M : Int} (h : Sg w c s) (hc : ∀ g, w.heap.size ≤ g → c g) (r : DRel s.xs s.rd W R) (k : Ok Q M W R) (x : It) :
    Calls Try.prog 20 #[s.val, .agg #[.int .i64 x.1, .int .i64 x.2]] w (GivesP w c s.Q W (push W R x) (pushE W R x)) := by
  have no : ∀ n, PushNo s.xs x n → pushE W R x = n → n ≠ 0 → Calls Try.prog 20 #[s.val, .agg #[.int .i64 x.1, .int .i64 x.2]] w (GivesP w c s.Q W (push W R x) (pushE W R x)) := fun n hn e h0 => by
    unfold push
    rw [if_neg (by rw [e]; exact h0), e]
    exact rpush_no h r k x n hn
  cases hw : inW W x.1 with
  | false =>
    refine no 7 (Or.inl ⟨fun y hy e => ?_, rfl⟩) (if_pos hw) (by decide)
    have := (r.inW x.1).2 ⟨y, hy, e⟩
    rw [hw] at this; cases this
  | true =>
    obtain ⟨y, hy, hi⟩ := (r.inW x.1).1 hw
    obtain ⟨i, hil, he⟩ := List.getElem_of_mem hy
    have hx : s.xs[i]? = some y := by rw [List.getElem?_eq_getElem hil, he]
    have e1 : pushE W R x = if x.2 < 1 ∨ 65536 < x.2 then 2 else if lenR R x.1 = 65536 then 9 else 0 := if_neg (by rw [hw]; decide)
    by_cases h1 : x.2 < 1
    · exact no 2 (Or.inr ⟨i, y, hx, hi, Or.inl ⟨h1, rfl⟩⟩) (by rw [e1, if_pos (Or.inl h1)]) (by decide)
    by_cases h2 : 65536 < x.2
    · exact no 2 (Or.inr ⟨i, y, hx, hi, Or.inr (Or.inl ⟨h1, h2, rfl⟩)⟩) (by rw [e1, if_pos (Or.inr h2)]) (by decide)
    have e2 : pushE W R x = if lenR R x.1 = 65536 then 9 else 0 := by rw [e1, if_neg (by omega)]
    have hl : y.q.l.length = lenR R x.1 := r.len k (Or.inr ⟨i, y, hx, hi, rfl⟩)
    have hle := r.items k y hy
    by_cases h3 : lenR R x.1 = 65536
    · exact no 9 (Or.inr ⟨i, y, hx, hi, Or.inr (Or.inr ⟨h1, h2, by omega, rfl⟩)⟩) (by rw [e2, if_pos h3]) (by decide)
    have e3 : pushE W R x = 0 := by rw [e2, if_neg h3]
    have := rpush_yes h hc r k x hx hi e3 (by omega) (by omega) (by omega)
    rw [e3]
    exact this
end Go.Proofs.Ytplbdeaoeocgkaa

/- Proved: lemmas of one statement's proof, merged by program: what each part proves stands ahead of it. Conditions: those that the lemmas name. -/
import Derived.Test.YtgclgmfmcgacdaaM20
import Derived.Room.AppendZeros

/- Proved: what drop of a part of a table leaves. Conditions: those that the theorems name. -/
namespace Go.Proofs.Ytgclgmfmcgacdaa
open Go.ChangeShapes Go.WideShapes Go.ChangeAt Go.RowKit Go.MuLone

theorem nodup_len {l r : List Nat} (h : l.Nodup) (hs : ∀ x ∈ l, x ∈ r) : l.length ≤ r.length := by
  induction l generalizing r with
  | nil => exact Nat.zero_le _
  | cons a l ih =>
    obtain ⟨ha, hl⟩ := List.nodup_cons.1 h
    obtain ⟨A, B, rfl⟩ := List.append_of_mem (hs a (by simp))
    have := ih (r := A ++ B) hl fun x hx => by
      have h1 := hs x (List.mem_cons_of_mem _ hx)
      have hne : x ≠ a := fun e => ha (e ▸ hx)
      rcases List.mem_append.1 h1 with k | k
      · exact List.mem_append_left _ k
      · rcases List.mem_cons.1 k with k | k
        · exact absurd k hne
        · exact List.mem_append_right _ k
    rw [List.length_append] at this
    rw [List.length_append, List.length_cons, List.length_cons]
    omega
/-- those keys that stay, while p are still to come in part j. -/
def Qp (n : Nat) (s : Int) (j : Nat) (p : Ky → Bool) : Ky → Bool := fun k => !(decide (k.1 = s) && (decide (pj n k < j) || (decide (pj n k = j) && !p k)))
theorem Qp_hit {n j : Nat} {s : Int} {p : Ky → Bool} {k : Ky} (hs : k.1 = s) (hj : pj n k = j) : (fun i => Qp n s j p i && butK k i) = Qp n s j (fun y => p y && !decide (y = k)) := by
  funext i
  unfold Qp butK
  by_cases e : i = k
  · subst e; simp [hs, hj]
  · simp [e]
theorem Qp_miss {n j : Nat} {s : Int} {p : Ky → Bool} {k : Ky} (hs : k.1 ≠ s) : Qp n s j (fun y => p y && !decide (y = k)) = Qp n s j p := by
  funext i
  unfold Qp
  by_cases e : i = k
  · subst e; simp [hs]
  · simp [e]
theorem drop_hit {X : List En} {n j : Nat} {s : Int} {p : Ky → Bool} {gs : List Nat} (hk : (X.map En.k).Nodup) (hp : (X.map En.p).Nodup) (hnd : gs.Nodup) (hm : ∀ q, q ∈ gs ↔ ∃ e ∈ X, e.k.1 = s ∧ pj n e.k = j ∧ p e.k = false ∧ e.p = q)
    {e : En} (he : e ∈ X) (hs : e.k.1 = s) (hj : pj n e.k = j) (ht : p e.k = true) : (gs ++ [e.p]).Nodup ∧ ∀ q, q ∈ gs ++ [e.p] ↔ ∃ a ∈ X, a.k.1 = s ∧ pj n a.k = j ∧ (p a.k && !decide (a.k = e.k)) = false ∧ a.p = q := by
  have hn : e.p ∉ gs := fun h => by
    obtain ⟨a, ha, _, _, hf, hq⟩ := (hm _).1 h
    rw [ptr_one hp ha he hq, ht] at hf
    cases hf
  refine ⟨List.nodup_append.2 ⟨hnd, by simp, fun a ha b hb f => ?_⟩, fun q => ?_⟩
  · obtain rfl : b = e.p := by simpa using hb
    exact hn (f ▸ ha)
  · rw [List.mem_append, hm]
    constructor
    · rintro (⟨a, ha, h1, h2, h3, h4⟩ | h)
      · exact ⟨a, ha, h1, h2, by rw [h3]; rfl, h4⟩
      · obtain rfl : q = e.p := by simpa using h
        exact ⟨e, he, hs, hj, by simp, rfl⟩
    · rintro ⟨a, ha, h1, h2, h3, h4⟩
      by_cases f : a.k = e.k
      · right
        rw [key_one hk ha he f] at h4
        simp [h4]
      · left
        exact ⟨a, ha, h1, h2, by simpa [f] using h3, h4⟩
theorem drop_miss {X : List En} {n j : Nat} {s : Int} {p : Ky → Bool} {gs : List Nat} (hm : ∀ q, q ∈ gs ↔ ∃ e ∈ X, e.k.1 = s ∧ pj n e.k = j ∧ p e.k = false ∧ e.p = q) {k : Ky} (hs : k.1 ≠ s) :
    ∀ q, q ∈ gs ↔ ∃ a ∈ X, a.k.1 = s ∧ pj n a.k = j ∧ (p a.k && !decide (a.k = k)) = false ∧ a.p = q := fun q => by
  rw [hm]
  constructor
  · rintro ⟨a, ha, h1, h2, h3, h4⟩
    exact ⟨a, ha, h1, h2, by rw [h3]; rfl, h4⟩
  · rintro ⟨a, ha, h1, h2, h3, h4⟩
    have : a.k ≠ k := fun f => hs (f ▸ h1)
    exact ⟨a, ha, h1, h2, by simpa [this] using h3, h4⟩
theorem drop_done {X : List En} {room n j : Nat} {s : Int} {p : Ky → Bool} {gs : List Nat} (hX : Wf X room) (hm : ∀ q, q ∈ gs ↔ ∃ e ∈ X, e.k.1 = s ∧ pj n e.k = j ∧ p e.k = false ∧ e.p = q)
    (hd : ∀ k : Ky, KyOk k → (fOf (keepX X (Qp n s j p)) n j k).isSome = true → p k = false) :
    keepX X (Qp n s j p) = keepX X (Qp n s j fun _ => false) ∧ ∀ q, q ∈ gs ↔ ∃ e ∈ X, e.k.1 = s ∧ pj n e.k = j ∧ e.p = q := by
  have key : ∀ e ∈ X, e.k.1 = s → pj n e.k = j → p e.k = false := fun e he h1 h2 => by
    cases hp : p e.k with
    | false => rfl
    | true =>
      rw [← hp]
      refine hd e.k (hX.ok e he).key ?_
      rw [fOf_keep, if_pos (by unfold Qp; simp [h2, hp])]
      unfold fOf
      rw [if_pos h2, findE_mem hX.kn he]
      rfl
  constructor
  · unfold keepX
    refine List.filter_congr fun e he => ?_
    unfold Qp
    by_cases h1 : e.k.1 = s
    · by_cases h2 : pj n e.k = j
      · simp [h1, h2, key e he h1 h2]
      · simp [h1, h2]
    · simp [h1]
  · intro q
    rw [hm]
    constructor
    · rintro ⟨a, ha, h1, h2, h3, h4⟩
      exact ⟨a, ha, h1, h2, h4⟩
    · rintro ⟨a, ha, h1, h2, h4⟩
      exact ⟨a, ha, h1, h2, key a ha h1 h2, h4⟩
section
variable {w w' : World} {L : Ly} {n room : Nat} {many : Int} {X Y XN : List En} {U : List Nat} {ls : Int} {sp : Nat → Int}
theorem St.unmap {k : Ky} {e : En} {m : Nat} (h : St w L n room many Y XN U ls sp) (hkn : (Y.map En.k).Nodup) (he : e ∈ Y) (hek : e.k = k) (hj : pj n k < n) (h64 : n ≤ 64) (t : Tn (fun i => i = L.mp (pj n k)) w w')
    (hm : Mq w' (L.mp (pj n k)) (fun i => if i = k then none else fOf Y n (pj n k) i) m) (hc : cntJ Y n (pj n k) = m + 1) : St w' L n room many (keepX Y (butK k)) XN U ls sp := by
  have hcnt : ∀ j, cntJ Y n j = cntJ (keepX Y (butK k)) n j + if pj n k = j then 1 else 0 := fun j => by
    have := cntJ_but hkn he n j
    rwa [hek] at this
  refine h.remap (XM' := keepX Y (butK k)) hj h64 t hm (fun i _ hi => ⟨fun k' => ?_, by rw [hcnt, if_neg (fun g => hi g.symm)]; rfl⟩) (fun k' _ => ?_) (by have := hcnt (pj n k); rw [if_pos rfl] at this; omega)
  · rw [fOf_keep]
    unfold butK
    by_cases e : k' = k
    · subst e
      rw [if_neg (by simp)]
      unfold fOf
      rw [if_neg (fun g => hi g.symm)]
    · rw [if_pos (by simp [e])]
  · rw [fOf_keep]
    unfold butK
    by_cases e : k' = k
    · rw [if_neg (by simp [e])]; simp [e]
    · rw [if_pos (by simp [e])]; simp [e]
/-- part j while it is gone through. -/
def DropAt (w0 : World) (L : Ly) (n room : Nat) (many : Int) (X : List En) (U : List Nat) (sp : Nat → Int) (s : Int) (j r : Nat) (v : Value) (wr : World) : Prop := ∃ (p : Ky → Bool) (cnt : Nat) (gs : List Nat),
  St wr L n room many (keepX X (Qp n s j p)) X U 0 sp ∧ Rng wr (L.mp j) r (fOf (keepX X (Qp n s j p)) n j) (cntJ (keepX X (Qp n s j p)) n j) p cnt ∧
  Rr wr (fun g => L.col g = -1 ∧ r < g) v gs ∧ gs.Nodup ∧ (∀ q, q ∈ gs ↔ ∃ e ∈ X, e.k.1 = s ∧ pj n e.k = j ∧ p e.k = false ∧ e.p = q) ∧ Tn (Mine L) w0 wr ∧ r < wr.heap.size ∧ szW w0 ≤ r
theorem Tn.mine {c : Nat → Prop} {w0 w w' : World} (h : Tn (Mine L) w0 w) (t : Tn c w w') (hc : ∀ g, g < w0.heap.size → c g → Mine L g) : Tn (Mine L) w0 w' := h.trans' t hc
set_option maxRecDepth 100000 in
set_option maxHeartbeats 3200000 in
theorem part_drop {s : Int} {j : Nat} (h : St w L n room many (keepX X (Qp n s j (fun _ => true))) X U 0 sp) (hX : Wf X room) (hj : j < n) (h64 : n ≤ 64) :
    Calls Try.prog 33 #[.pointer (some ⟨L.gp, j * 3, none⟩), .int .i64 s] w fun e w' => ∃ v gs, e = .returned v ∧ St w' L n room many (keepX X (Qp n s j (fun _ => false))) X U 0 sp ∧
      Rr w' (fun g => L.col g = -1) v gs ∧ gs.Nodup ∧ (∀ q, q ∈ gs ↔ ∃ e ∈ X, e.k.1 = s ∧ pj n e.k = j ∧ e.p = q) ∧ Tn (Mine L) w w' := by
  have HX := Lib.hid hX
  have HJ := Lib.hid (And.intro hj h64)
  have HH := Lib.hid h
  have c2 := (h.pcell hj).2
  have HM := Lib.hid (h.maps j hj)
  have HCR : Hid (L.col w.heap.size = -1) := Lib.hid (h.ahead _ (Nat.le_refl _))
  clear h hX hj h64
  go_enter Try.func33, Try.ntmps33
  go_wp2_with (first | (at_range; refine rng_start _ rfl _ rfl (L.mp j) _ _ rfl HM.out ?_; intro w2 hr2 hg2 hs2))
  have ht2 : Tn Nil w w2 := tn_grown hg2 (fun g e => by cases e)
  have HS : Hid (DropAt w L n room many X U sp s j w.heap.size (.slice none 0 0) w2) := Lib.hid ⟨fun _ => true, _, [], HH.out.free ht2, hr2, Rr.nil _ _, List.nodup_nil, fun q => ⟨(fun e => nomatch e), (fun f => by obtain ⟨e, _, _, _, f, _⟩ := f; cases f)⟩, ht2.mono fun _ _ e => e.elim, by omega, Nat.le_refl _⟩
  clear hr2 hg2 hs2 HM c2 ht2
  generalize w.heap.size = r at *
  go_loopw [5] (fun v wr => DropAt w L n room many X U sp s j r v wr) (fun _ wr => wr.rangeLeft (L.mp j) r)
  case atStart => exact HS.out
  case round =>
    obtain ⟨p, cnt, gs, hst, hrng, hrow, hnd, hmem, htn, hrl, hrs⟩ := hrel
    have HST := Lib.hid hst
    have HR := Lib.hid hrng
    have HRW := Lib.hid hrow
    have HGS := Lib.hid (And.intro hnd hmem)
    have HT := Lib.hid htn
    have HRL := Lib.hid (And.intro hrl hrs)
    clear hst hrng hrow hnd hmem htn hrl hrs HS
    go_wp2_with (first
      | (at_next; refine rng_next _ rfl _ rfl (L.mp j) r _ _ p cnt rfl HR.out ?_ ?_))
    · intro hd
      obtain ⟨e1, e2⟩ := drop_done HX.out HGS.out.2 (fun k hk hs => hd k.1 k.2 hk hs)
      have HSD : Hid (St wr L n room many (keepX X (Qp n s j (fun _ => false))) X U 0 sp) := Lib.hid (by rw [← e1]; exact HST.out)
      have HE2 := Lib.hid e2
      clear hd e1 e2 HST HR
      go_wp2_with fail
      go_ret
      exact ⟨_, gs, rfl, HSD.out, HRW.out.mono (fun _ _ f => f.1), HGS.out.1, HE2.out, HT.out⟩
    · intro k0 k1 q w3 cnt' hk hfq hp hr3 hlt hg3 hs3 hen
      have t3 : Tn (fun g => g = r) wr w3 := tn_grown hg3 (fun g e => by injection e with e; exact e.symm)
      have hcr := HCR.out
      have h3 := HST.out.tn t3 (fun g _ e => by rw [e]; exact hcr)
      have hz3 : r < w3.heap.size := by have := HRL.out.1; omega
      have hrow3 := HRW.out.tn t3 (fun g _ f e => by have := f.2; omega)
      have T3 := Lib.hid (HT.out.trans' t3 (fun g hg e => absurd hg (by have := HRL.out.2; unfold szW at this; rw [e]; omega)))
      have t4 : Tn Nil w3 (w3.alloc (.cells #[.int .i64 k0, .int .u32 k1] 35)) := (Tn.refl Nil w3).alloc _
      have H4 := Lib.hid (h3.free t4)
      have HR4 := Lib.hid (hr3.tn t4 (fun e => e) (fun e => e))
      have HK4 : Hid (At (w3.alloc (.cells #[.int .i64 k0, .int .u32 k1] 35)) w3.heap.size 35 [.int .i64 k0, .int .u32 k1]) := Lib.hid (At.new w3 35 [.int .i64 k0, .int .u32 k1])
      have HRW4 := Lib.hid ((hrow3.tn t4 (fun _ _ _ e => e)))
      have HRK := Lib.hid ((hrow3.mono (d := fun g => L.col g = -1 ∧ r < g ∧ g < w3.heap.size) (fun g hg f => ⟨f.1, f.2, hg⟩)).tn t4 (fun _ _ _ e => e))
      have T4 : Hid (Tn (Mine L) w (w3.alloc (.cells #[.int .i64 k0, .int .u32 k1] 35))) := Lib.hid (T3.out.trans (t4.mono fun _ _ e => e.elim))
      have HZ4 : Hid (r < (w3.alloc (.cells #[.int .i64 k0, .int .u32 k1] 35)).heap.size) := Lib.hid (Nat.lt_of_lt_of_le hz3 t4.size)
      have HZ3 := Lib.hid hz3
      have HL3 : Hid (cnt' < cnt ∧ wr.rangeLeft (L.mp j) r = cnt) := Lib.hid ⟨hlt, HR.out.left_eq⟩
      have HKO := Lib.hid hk
      have HFQ := Lib.hid hfq
      have HPK := Lib.hid hp
      clear hk hfq hp hr3 hlt hg3 hs3 t3 h3 hrow3 t4 hcr HST HR HRW HT T3 hz3
      by_cases hz : k0 = s
      · subst hz
        have k0c := HK4.out.cell 0 rfl
        have hj : ∃ e ∈ X, e.k = (k0, k1) ∧ pj n (k0, k1) = j ∧ e.p = q := by
          have := HFQ.out
          rw [fOf_keep] at this
          unfold fOf at this
          split at this
          · split at this
            · rename_i hj
              cases hf : findE X (k0, k1) with
              | none => rw [hf] at this; cases this
              | some e =>
                rw [hf] at this
                exact ⟨e, (findE_some hf).1, (findE_some hf).2, hj, Option.some.inj this⟩
            · cases this
          · cases this
        obtain ⟨e, he, hek, hpk, rfl⟩ := hj
        obtain ⟨hnd2, hmem2⟩ := drop_hit HX.out.kn HH.out.pn HGS.out.1 HGS.out.2 (e := e) he (by rw [hek]) (by rw [hek]; exact hpk) (by rw [hek]; exact HPK.out)
        have hlen : gs.length + 1 ≤ 65536 := by
          have h1 := nodup_len (r := X.map En.p) hnd2 (fun x hx => by
            obtain ⟨a, ha, _, _, _, f⟩ := (hmem2 x).1 hx
            exact List.mem_map.2 ⟨a, ha, f⟩)
          rw [List.length_append, List.length_map] at h1
          have := HX.out.len
          have := HX.out.room
          simp at h1
          omega
        have HE := Lib.hid (And.intro he (And.intro hek hpk))
        have HGS2 := Lib.hid (And.intro hnd2 hmem2)
        clear he hek hpk hnd2 hmem2
        generalize hw4 : w3.alloc (.cells #[.int .i64 k0, .int .u32 k1] 35) = w4 at *
        have t5 : Tn Nil w4 (w4.alloc (.cells #[ptv e.p] 60)) := (Tn.refl Nil w4).alloc _
        have hsz5 : w4.heap.size = w3.heap.size + 1 := by rw [← hw4]; simp
        obtain ⟨v6, w6, g6, hrun, hrow6, hg6, t6⟩ := (HRK.out.tn t5 (fun _ _ _ f => f)).append [e.p] (by simp) hlen ⟨w4.heap.size, 0, none⟩ (fun i hi => by
          obtain rfl : i = 0 := by simpa using hi
          exact (At.new w4 60 [ptv e.p]).cell 0 rfl) 1 91
        rw [hsz5] at hrun
        have H6 := Lib.hid ((H4.out.free t5).tn t6 (fun g _ f => f.1))
        have hmpj : L.col (L.mp j) = 100 + j := H4.out.cm j HJ.out.1
        have HR6 := Lib.hid ((HR4.out.tn t5 (fun e => e)  (fun e => e)).tn t6 (fun f => by have := f.1; omega) (fun f => Nat.lt_irrefl _ f.2.1))
        have HK6 : Hid (At w6 w3.heap.size 35 [.int .i64 k0, .int .u32 k1]) := Lib.hid ((HK4.out.tn t5 (fun e => e)).tn t6 (fun f => absurd f.2.2 (Nat.lt_irrefl _)))
        have T6 : Hid (Tn (Mine L) w w6) := Lib.hid ((T4.out.trans (t5.mono fun _ _ e => e.elim)).trans' t6 (fun g hg f => absurd hg (by have := HRL.out.2; unfold szW at this; have := f.2.1; omega)))
        have HS5 : Hid (w4.heap.size ≤ w6.heap.size) := Lib.hid (Nat.le_trans t5.size t6.size)
        have HCN : Hid (L.col g6 = -1 ∧ r < g6) := Lib.hid (by
          rcases hg6 with f | f
          · exact ⟨f.1, f.2.1⟩
          · exact ⟨H4.out.ahead _ (Nat.le_trans t5.size f), by have := HZ4.out; have := t5.size; omega⟩)
        have HRW6 := Lib.hid (hrow6.mono (d := fun g => L.col g = -1 ∧ r < g) (fun g _ f => by rw [f]; exact HCN.out))
        have HZ6 : Hid (r < w6.heap.size) := Lib.hid (Nat.lt_of_lt_of_le HZ4.out HS5.out)
        subst hw4
        have k60 := HK6.out.cell 0 rfl
        have k61 := HK6.out.cell 1 rfl
        have c6 := (H6.out.pcell HJ.out.1).2
        clear t5 hrow6 hg6 t6 H4 HR4 HK4 HRW4 HRK T4 HZ4 HCN hsz5 hlen
        go_wp2_with (at_builtin; refine Lib.wpList_append_run _ rfl _ _ _ _ rfl _ _ rfl rfl _ _ hrun ?_)
        clear hrun HS5 k0c
        have HKR2 := Lib.hid HZ3.out
        generalize w3.heap.size = kx at *
        go_wp2_with fail
        refine wp_region_still_tail 5 (by kernel_rfl) (by kernel_rfl) ?_
        simp only [List.take_succ_cons, List.take_zero, List.drop_succ_cons, List.drop_zero]
        repeat still_step
        refine wpStill_nil ?_
        change wpList _ _ _ _ _ w6.drew
        have h6d := H6.out.free ((Tn.refl Nil w6).drew)
        have hY : e ∈ keepX X (Qp n k0 j p) := List.mem_filter.2 ⟨HE.out.1, by rw [HE.out.2.1]; unfold Qp; simp [HE.out.2.2, HPK.out]⟩
        have hkn := keep_nodup HX.out.kn (Qp n k0 j p)
        have hcm := cntJ_but hkn hY n j
        rw [HE.out.2.1, if_pos HE.out.2.2, keep_keep, Qp_hit (s := k0) (p := p) (k := (k0, k1)) rfl HE.out.2.2] at hcm
        have hrd := HR6.out.tn ((Tn.refl Nil w6).drew) (fun e => e) (fun e => e)
        rw [hcm] at hrd
        obtain ⟨w7, cnt7, hrun, hr7, hle, hg7⟩ := rng_del hrd HKO.out (by rw [HFQ.out]; rfl) 0
        have t7 : Tn (fun i => i = L.mp j) w6.drew w7 := tn_grown hg7 (fun g e => by injection e with e; exact e.symm)
        have h7 := h6d.unmap (k := (k0, k1)) hkn hY HE.out.2.1 (by rw [HE.out.2.2]; exact HJ.out.1) HJ.out.2 (w' := w7) (m := cntJ (keepX X (Qp n k0 j fun y => p y && !decide (y = (k0, k1)))) n j) (by rw [HE.out.2.2]; exact t7) (by rw [HE.out.2.2]; exact hr7.mq) (by rw [HE.out.2.2]; exact hcm)
        rw [keep_keep, Qp_hit (s := k0) (p := p) (k := (k0, k1)) rfl HE.out.2.2] at h7
        have hr7 := hr7.congr (g := fOf (keepX X (Qp n k0 j fun y => p y && !decide (y = (k0, k1)))) n j) (q := fun y => p y && !decide (y = (k0, k1))) (fun i _ => by
          rw [← Qp_hit (s := k0) (p := p) (k := (k0, k1)) rfl HE.out.2.2, ← keep_keep, fOf_keep]
          unfold butK
          by_cases f : i = (k0, k1) <;> simp [f]) (fun _ _ _ => rfl)
        have t67 : Tn (fun i => i = L.mp j) w6 w7 := ((Tn.refl (fun i => i = L.mp j) w6).drew).trans t7
        have H7 := Lib.hid h7
        have HR7 := Lib.hid hr7
        have HRW7 := Lib.hid (HRW6.out.tn t67 (fun g _ f e => by have := f.1; rw [e] at this; omega))
        have T7 : Hid (Tn (Mine L) w w7) := Lib.hid (T6.out.trans' t67 (fun g _ f => by show L.col g ≠ -1; rw [f]; omega))
        have HZ7 : Hid (r < w7.heap.size) := Lib.hid (Nat.lt_of_lt_of_le HZ6.out t67.size)
        have HLE := Lib.hid hle
        clear h6d hY hkn hcm hrd hr7 hle hg7 t7 h7 t67 c6 k60 k61 H6 HR6 HRW6 T6 HZ6 HK6
        generalize w6.drew = w8 at *
        go_wp2_with fail
        go_roundw
        case rel =>
          refine ⟨fun y => p y && !decide (y = (k0, k1)), cnt7, gs ++ [e.p], H7.out, HR7.out, HRW7.out, HGS2.out.1, ?_, T7.out, HZ7.out, HRL.out.2⟩
          have := HGS2.out.2
          rwa [HE.out.2.1] at this
        case measure => rw [HR7.out.left_eq, HL3.out.2]; exact Nat.lt_of_le_of_lt HLE.out HL3.out.1
      · have HZZ := Lib.hid hz
        have k0c := HK4.out.cell 0 rfl
        go_wp2_with fail
        go_roundw
        case rel => exact ⟨fun y => p y && !decide (y = (k0, k1)), cnt', gs, by rw [Qp_miss (k := (k0, k1)) HZZ.out]; exact H4.out, by rw [Qp_miss (k := (k0, k1)) HZZ.out]; exact HR4.out, HRW4.out, HGS.out.1, drop_miss HGS.out.2 (k := (k0, k1)) HZZ.out, T4.out, HZ4.out, HRL.out.2⟩
        case measure => rw [HR4.out.left_eq, HL3.out.2]; exact HL3.out.1
end
end Go.Proofs.Ytgclgmfmcgacdaa

/- Proved: what Drop of package table leaves. Conditions: those that the theorems name. -/
namespace Go.Proofs.Ytgclgmfmcgacdaa
open Go.ChangeShapes Go.WideShapes Go.ChangeAt Go.RowKit Go.MuLone
/-- these parts are locked. -/
def lockN (k : Nat) : Nat → Int := fun j => if j < k then 1 else 0
theorem lockN_zero : lockN 0 = fun _ => 0 := by funext j; simp [lockN]
theorem lockN_next (k : Nat) : upd (lockN k) k 1 = lockN (k + 1) := by
  funext j
  unfold upd lockN
  by_cases e : j = k
  · subst e; simp
  · rw [if_neg e]
    by_cases f : j < k
    · rw [if_pos f, if_pos (by omega)]
    · rw [if_neg f, if_neg (by omega)]
theorem lockN_back (k : Nat) : upd (lockN (k + 1)) k 0 = lockN k := by
  funext j
  unfold upd lockN
  by_cases e : j = k
  · subst e; simp
  · rw [if_neg e]
    by_cases f : j < k
    · rw [if_pos f, if_pos (by omega)]
    · rw [if_neg f, if_neg (by omega)]
theorem Rr.append_any {w : World} {c d : Nat → Prop} {v v2 : Value} {ps qs : List Nat} (h : Rr w c v ps) (k : Rr w d v2 qs) (hn : ps.length + qs.length ≤ 65536) (ty : TypeId) :
    ∃ v' w', (Builtin.append_ #[91, 91] ty #[v, v2]).run Try.prog w = .ok v' w' ∧ Rr w' (fun g => c g ∨ w.heap.size ≤ g) v' (ps ++ qs) ∧ Tn c w w' := by
  obtain ⟨i, hi, hz0, hz1, hz2⟩ := info_parts infoPt
  have ht := Try.underlying91
  rcases k.1.2 with ⟨rfl, h0⟩ | ⟨g, cap, cur, rfl, _⟩
  · obtain rfl : qs = [] := List.eq_nil_of_length_eq_zero (by simpa using h0)
    refine ⟨v, w, run_append_owned_none (P := Try.prog) (w := w) 0 _ ty _ i 1 ht hi v _ _ h.1, ?_, Tn.refl _ _⟩
    rw [List.append_nil]
    exact h.mono fun _ _ e => .inl e
  · have hnews : ∀ j u, (qs.map ptv)[j]? = some u → w.cell? ((⟨g, 0, none⟩ : Addr).add j) = some u := fun j u hj => k.1.cells (g := g) rfl j u hj
    obtain ⟨v', w', hr, h2, h3, _, h5⟩ := run_append_own_at (P := Try.prog) w 0 _ ty _ i _ 1 8 ht hi hz0 hz1 hz2 rfl (by omega) v ps.length _ h.1 ⟨g, 0, none⟩ qs.length cap (qs.map ptv) (by simp) hnews (ptcells_one _) (by unfold maxLen; omega) (by omega) (Nat.zero_le _)
    rw [← List.map_append] at h2
    refine ⟨v', w', hr, ⟨by rw [List.length_append]; exact h2, fun g' e => ?_⟩, tn_grown h3 h.2⟩
    rcases h5 with h5 | h5
    · exact .inl (h.2 g' (by rw [← h5]; exact e))
    · right
      rw [h5] at e
      injection e with e
      omega
theorem gone_next {X : List En} {n k : Nat} {s : Int} {gs g3 : List Nat} (hp : (X.map En.p).Nodup) (hn : gs.Nodup) (hm : ∀ q, q ∈ gs ↔ ∃ e ∈ X, e.k.1 = s ∧ pj n e.k < k ∧ e.p = q)
    (hn3 : g3.Nodup) (hm3 : ∀ q, q ∈ g3 ↔ ∃ e ∈ X, e.k.1 = s ∧ pj n e.k = k ∧ e.p = q) : (gs ++ g3).Nodup ∧ ∀ q, q ∈ gs ++ g3 ↔ ∃ e ∈ X, e.k.1 = s ∧ pj n e.k < k + 1 ∧ e.p = q := by
  refine ⟨List.nodup_append.2 ⟨hn, hn3, fun a ha b hb f => ?_⟩, fun q => ?_⟩
  · obtain ⟨e, he, _, h1, h2⟩ := (hm a).1 ha
    obtain ⟨e', he', _, h1', h2'⟩ := (hm3 b).1 hb
    have := ptr_one hp he he' (by rw [h2, h2', f])
    subst this
    omega
  · rw [List.mem_append, hm, hm3]
    constructor
    · rintro (⟨a, ha, h1, h2, h3⟩ | ⟨a, ha, h1, h2, h3⟩)
      · exact ⟨a, ha, h1, by omega, h3⟩
      · exact ⟨a, ha, h1, by omega, h3⟩
    · rintro ⟨a, ha, h1, h2, h3⟩
      by_cases f : pj n a.k = k
      · exact .inr ⟨a, ha, h1, f, h3⟩
      · exact .inl ⟨a, ha, h1, by omega, h3⟩
theorem gone_len {X : List En} {gs : List Nat} (hn : gs.Nodup) (hm : ∀ q ∈ gs, ∃ e ∈ X, e.p = q) : gs.length ≤ X.length := by
  have := nodup_len (r := X.map En.p) hn (fun x hx => by
    obtain ⟨a, ha, f⟩ := hm x hx
    exact List.mem_map.2 ⟨a, ha, f⟩)
  rwa [List.length_map] at this
/-- how many are gone. -/
theorem gone_many {X : List En} {s : Int} {gs : List Nat} (hp : (X.map En.p).Nodup) (hn : gs.Nodup) (hm : ∀ q, q ∈ gs ↔ ∃ e ∈ X, e.k.1 = s ∧ e.p = q) :
    gs.length = (X.filter fun e => decide (e.k.1 = s)).length ∧ ((keepX X fun k => !decide (k.1 = s)).length : Int) = (X.length : Int) - (gs.length : Int) := by
  have h1 : gs.length ≤ (X.filter fun e => decide (e.k.1 = s)).length := gone_len hn fun q hq => by
    obtain ⟨e, he, h1, h2⟩ := (hm q).1 hq
    exact ⟨e, List.mem_filter.2 ⟨he, by simpa using h1⟩, h2⟩
  have h2 := nodup_len (l := (X.filter fun e => decide (e.k.1 = s)).map En.p) (r := gs) (hp.sublist (List.filter_sublist.map _)) fun x hx => by
    obtain ⟨e, he, f⟩ := List.mem_map.1 hx
    obtain ⟨he, h1⟩ := List.mem_filter.1 he
    exact (hm x).2 ⟨e, he, by simpa using h1, f⟩
  rw [List.length_map] at h2
  refine ⟨by omega, ?_⟩
  have h3 : X.length = (X.filter fun e => decide (e.k.1 = s)).length + (keepX X fun k => !decide (k.1 = s)).length := by
    unfold keepX
    clear hp hm h1 h2
    induction X with
    | nil => rfl
    | cons a r ih =>
      by_cases e : a.k.1 = s
      · simp [e] at ih ⊢; omega
      · simp [e] at ih ⊢; omega
  omega
/-- what part k has left. -/
structure GoneAt (w : World) (L : Ly) (n room : Nat) (X : List En) (s : Int) (k : Nat) (v : Value) (gs : List Nat) (wr : World) : Prop where
  le : k ≤ n
  st : St wr L n room X.length (keepX X (Qp n s k (fun _ => true))) X (lineP X) 0 (lockN n)
  row : Rr wr (fun g => L.col g = -1 ∧ szW w ≤ g) v gs
  nd : gs.Nodup
  mem : ∀ q, q ∈ gs ↔ ∃ e ∈ X, e.k.1 = s ∧ pj n e.k < k ∧ e.p = q
  tn : Tn (Mine L) w wr
theorem GoneAt.next {w wr w3 w4 : World} {L : Ly} {n room : Nat} {X : List En} {s : Int} {k : Nat} {v v4 : Value} {gs g3 : List Nat} (h : GoneAt w L n room X s k v gs wr) (hk : k < n)
    (h3 : St w3 L n room X.length (keepX X (Qp n s (k + 1) (fun _ => true))) X (lineP X) 0 (lockN n)) (t3 : Tn (Mine L) wr w3) (t4 : Tn (fun g => L.col g = -1 ∧ szW w ≤ g) w3 w4)
    (hr4 : Rr w4 (fun g => (L.col g = -1 ∧ szW w ≤ g) ∨ w3.heap.size ≤ g) v4 (gs ++ g3)) (hn3 : g3.Nodup) (hm3 : ∀ q, q ∈ g3 ↔ ∃ e ∈ X, e.k.1 = s ∧ pj n e.k = k ∧ e.p = q) : GoneAt w L n room X s (k + 1) v4 (gs ++ g3) w4 := by
  obtain ⟨q1, q2⟩ := gone_next h3.pn h.nd h.mem hn3 hm3
  have hs : szW w ≤ w3.heap.size := Nat.le_trans h.tn.size t3.size
  refine ⟨hk, h3.tn t4 (fun g _ f => f.1), hr4.mono (fun g _ f => ?_), q1, q2, (h.tn.trans t3).trans' t4 (fun g hg f => absurd hg (by have := f.2; unfold szW at this; omega))⟩
  rcases f with f | f
  · exact f
  · exact ⟨h3.ahead g f, by omega⟩
theorem Qp_next (n : Nat) (s : Int) (j : Nat) : Qp n s j (fun _ => false) = Qp n s (j + 1) (fun _ => true) := by
  funext i
  unfold Qp
  by_cases e : i.1 = s
  · by_cases f : pj n i < j
    · simp [e, f, show pj n i < j + 1 by omega]
    · by_cases g : pj n i = j
      · simp [e, g]
      · simp [e, f, g, show ¬ pj n i < j + 1 by omega]
  · simp [e]
theorem Qp_zero (n : Nat) (s : Int) (X : List En) : keepX X (Qp n s 0 (fun _ => true)) = X := by
  unfold keepX Qp
  rw [List.filter_eq_self]
  intro e _
  simp
theorem Qp_last {n : Nat} (hn : 0 < n) (s : Int) : Qp n s n (fun _ => true) = fun k => !decide (k.1 = s) := by
  funext i
  unfold Qp
  simp [pj_lt hn i]
/-- while the parts are locked. -/
structure LockAt (w : World) (L : Ly) (n room : Nat) (X : List En) (k : Nat) (wr : World) : Prop where
  le : k ≤ n
  st : St wr L n room X.length X X (lineP X) 0 (lockN k)
  tn : Tn (Mine L) w wr
/-- the unlocks that are still to be made. -/
def defsL (L : Ly) : Nat → List Deferred
  | 0 => []
  | k + 1 => { target := .fn (.func 26) #[], args := #[.pointer (some ⟨L.gp, k * 3, none⟩)] } :: defsL L k
section
variable {w w' : World} {L : Ly} {n room : Nat} {X : List En}
/-- all that is to be unlocked, is. -/
theorem unlock_all {m : Int} {XM XN : List En} {U : List Nat} {fn : Func} {tmps : Array Value} {R : Ending → World → Prop} : ∀ (k : Nat), k ≤ n → ∀ w1, St w1 L n room m XM XN U 0 (lockN k) →
    (∀ w2, St w2 L n room m XM XN U 0 (fun _ => 0) → Tn (Mine L) w1 w2 → ∃ v, (results fn tmps).run Try.prog w2 = .ok v w2 ∧ R (.returned v) w2) → Leaves Try.prog fn tmps R (defsL L k) .returning w1
  | 0, _, w1, h, hR => hR w1 (by rw [← lockN_zero]; exact h) (Tn.refl _ _)
  | k + 1, hk, w1, h, hR => by
    refine leaves_cons (f := 26) (args := #[.pointer (some ⟨L.gp, k * 3, none⟩)]) (by simp) (by simp [go_sem]) ?_
    refine (tb_punlock h (by omega) (by unfold lockN; rw [if_pos (by omega)]) .returning).mono ?_
    rintro e u' w2 ⟨rfl, rfl, h2, t2⟩
    rw [lockN_back] at h2
    exact unlock_all k (by omega) w2 h2 (fun w3 h3 t3 => hR w3 h3 ((t2.g h).trans t3))
set_option maxRecDepth 100000 in
set_option maxHeartbeats 3200000 in
theorem tb_drop {s : Int} (h : Tb w L n room X) :
    Calls Try.prog 15 #[ptv L.b, .int .i64 s] w fun e w' => e = .returned (.int .i64 ((X.filter fun e => decide (e.k.1 = s)).length : Nat)) ∧ Tb w' L n room (keepX X (fun k => !decide (k.1 = s))) ∧ Tn (Mine L) w w' := by
  have HH := Lib.hid h
  have HN := Lib.hid (And.intro h.n1 h.n64)
  have c0 := h.st.tab.cell 0 rfl
  clear h
  go_enter_defers Try.func15, Try.ntmps15
  go_wp2_with fail
  have HI : Hid (LockAt w L n room X 0 w) := Lib.hid ⟨by omega, by rw [lockN_zero]; exact HH.out.st, Tn.refl _ _⟩
  refine wp_loop (fun a' w' => ∃ k : Nat, ∃ u5 u16 u17 u18 u19 u20 u21 u22 u23 u24 u25 u26 u27 u28 u29 u30 u31 u32 u33, LockAt w L n room X k w' ∧ a' = { tmps := #[ptv L.b, .int .i64 s, undef, undef, .int .i64 0, u5, undef, undef, ptv L.b, .bool false, ptv L.b, .pointer (some ⟨L.b, 0, none⟩), .pointer (some ⟨L.b, 0, none⟩), .slice (some ⟨L.gp, 0, none⟩) n n, .int .i64 n, .int .i64 k, u16, u17, u18, u19, u20, u21, u22, u23, u24, u25, u26, u27, u28, u29, u30, u31, u32, u33, undef, undef, undef, undef, undef, undef, undef, undef, undef, undef, undef, undef, undef, undef, undef, undef, undef, undef, undef, undef, undef, undef, undef, undef, undef, undef], defers := defsL L k }) (fun a' _ => n - (intOf (a'.tmps.getD 15 undef)).toNat) ?_ ?_
  · refine ⟨0, ?_⟩
    repeat apply Exists.intro
    exact ⟨HI.out, rfl⟩
  · rintro _ wr ⟨k, u5, u16, u17, u18, u19, u20, u21, u22, u23, u24, u25, u26, u27, u28, u29, u30, u31, u32, u33, hrel, rfl⟩
    dsimp only
    clear HI c0
    have HR := Lib.hid hrel.st
    have HT := Lib.hid hrel.tn
    have hk := hrel.le
    clear hrel
    have hk0 : (0 : Int) ≤ (k : Int) := Int.natCast_nonneg _
    by_cases hlt : k < n
    · have hlt' : (k : Int) < (n : Int) := by omega
      have HLT := Lib.hid hlt
      have c0 := HR.out.tab.cell 0 rfl
      go_wp2_with fail
      have hl := tb_plock HR.out hlt (by unfold lockN; rw [if_neg (by omega)])
      refine hl.mono ?_; rintro e w3 ⟨rfl, h3, t3⟩
      rw [lockN_next] at h3
      have T3 := Lib.hid (HT.out.trans (t3.g HR.out))
      have H3 := Lib.hid h3
      clear h3 t3 HR HT hl c0
      have c0 := H3.out.tab.cell 0 rfl
      go_wp2_with fail
      have hwr : wrap64 ((k : Int) + 1) = ((k + 1 : Nat) : Int) := by
        have := HN.out.2
        unfold wrap64
        omega
      simp only [hwr]
      refine ⟨⟨k + 1, ?_⟩, ?measure⟩
      · repeat apply Exists.intro
        exact ⟨⟨HLT.out, H3.out, T3.out⟩, rfl⟩
      case measure => simp [intOf]; omega
    · have hlt' : ¬ (k : Int) < (n : Int) := by omega
      obtain rfl : n = k := by omega
      have c0 := HR.out.tab.cell 0 rfl
      clear hlt hk
      have HGO : Hid (GoneAt w L n room X s 0 (.slice none 0 0) [] wr) := Lib.hid ⟨Nat.zero_le _, by rw [Qp_zero]; exact HR.out, Rr.nil _ _, List.nodup_nil, fun q => ⟨(fun e => nomatch e), (fun f => by obtain ⟨e, _, _, f, _⟩ := f; omega)⟩, HT.out⟩
      go_wp2_with fail
      clear HR HT c0 hlt' hk0
      go_loopw [6, 39] (fun v i wr => ∃ (k : Nat) (gs : List Nat), i = .int .i64 k ∧ GoneAt w L n room X s k v gs wr) (fun _ i _ => n - (intOf i).toNat)
      case atStart => exact ⟨0, [], rfl, HGO.out⟩
      case round =>
        obtain ⟨k, gs, rfl, hgo⟩ := hrel
        have HG := Lib.hid hgo
        have hk := hgo.le
        clear hgo HGO
        have hk0 : (0 : Int) ≤ (k : Int) := Int.natCast_nonneg _
        by_cases hlt : k < n
        · have hlt' : (k : Int) < (n : Int) := by omega
          have HLT := Lib.hid hlt
          have c0 := HG.out.st.tab.cell 0 rfl
          go_wp2_with fail
          have hd := part_drop HG.out.st HH.out.wf hlt HN.out.2
          refine hd.mono ?_; rintro e w3 ⟨v3, gs3, rfl, h3, hr3, hn3, hm3, t3⟩
          have hr := HG.out.row.tn t3 (fun g _ f e => e f.1)
          have hqn := gone_next h3.pn HG.out.nd HG.out.mem hn3 hm3
          have hl := gone_len hqn.1 (X := X) (fun q hq => by obtain ⟨e, he, _, _, f⟩ := (hqn.2 q).1 hq; exact ⟨e, he, f⟩)
          rw [List.length_append] at hl
          obtain ⟨v4, w4, hrun, hr4, t4⟩ := hr.append_any hr3 (by have := HH.out.wf.len; have := HH.out.wf.room; omega) 91
          rw [Qp_next] at h3
          have HN4 := Lib.hid (HG.out.next HLT.out h3 t3 t4 hr4 hn3 hm3)
          clear hd h3 hr3 hn3 hm3 t3 hr hqn hl hr4 t4 c0
          go_wp2_with (at_builtin; refine Lib.wpList_append_run _ rfl _ _ _ _ rfl _ _ rfl rfl _ _ hrun ?_)
          have hwr : wrap64 ((k : Int) + 1) = ((k + 1 : Nat) : Int) := by
            have := HN.out.2
            unfold wrap64
            omega
          simp only [hwr]
          go_roundw
          case rel => exact ⟨k + 1, _, rfl, HN4.out⟩
          case measure => simp [intOf]; omega
        · have hlt' : ¬ (k : Int) < (n : Int) := by omega
          obtain rfl : n = k := by omega
          clear hlt hk
          go_wp2_with fail
          have hpos : 0 < n := by have := HN.out.1; omega
          have hm2 : ∀ q, q ∈ gs ↔ ∃ e ∈ X, e.k.1 = s ∧ e.p = q := fun q => by
            rw [HG.out.mem]
            constructor
            · rintro ⟨e, he, h1, _, h2⟩; exact ⟨e, he, h1, h2⟩
            · rintro ⟨e, he, h1, h2⟩; exact ⟨e, he, h1, pj_lt hpos e.k, h2⟩
          have hpn := HH.out.st.pn
          obtain ⟨hmany, hleft⟩ := gone_many hpn HG.out.nd hm2
          have hgl : gs.length ≤ X.length := gone_len HG.out.nd (fun q hq => by obtain ⟨e, he, _, f⟩ := (hm2 q).1 hq; exact ⟨e, he, f⟩)
          have hfg := tb_forget HG.out.st ⟨by omega, by have := HH.out.wf.len; have := HH.out.wf.room; omega⟩ (HG.out.row.mono fun _ _ f => f.1) HG.out.nd (by omega) (fun g hg => by
            obtain ⟨e, he, _, f⟩ := (hm2 g).1 hg
            subst f
            exact ⟨e, he, rfl, (HH.out.wf.ok e he).l0, ready_line hpn he⟩)
          have hln : restU (lineP X) gs gs.length = lineP (keepX X fun k => !decide (k.1 = s)) := line_rest (fun k => !decide (k.1 = s)) fun a ha => by
            rw [hm2]
            simp only [Bool.not_eq_false', decide_eq_true_eq]
            constructor
            · rintro ⟨e, he, h1, h2⟩; rw [ptr_one hpn ha he h2.symm]; exact h1
            · intro f; exact ⟨a, ha, f, rfl⟩
          rw [hln, ← hleft, Qp_last hpos] at hfg
          obtain ⟨A, cap, rfl⟩ := HG.out.row.len
          refine hfg.mono ?_
          rintro e w5 ⟨rfl, h5, t5⟩
          have H5 := Lib.hid (h5.sub (XN' := keepX X fun k => !decide (k.1 = s)) List.filter_sublist (line_sub (fun k => !decide (k.1 = s)) rfl))
          have T5 := Lib.hid (HG.out.tn.trans t5)
          have HMY := Lib.hid hmany
          clear h5 t5 hfg hln hgl hleft hmany hm2
          go_wp2_with fail
          refine unlock_all n (Nat.le_refl _) w5 H5.out (fun w6 h6 t6 => ⟨_, results_tmp rfl _ _ _, by rw [HMY.out]; rfl, ⟨h6, wf_keep HH.out.wf _, HN.out.1, HN.out.2⟩, T5.out.trans t6⟩)
end
end Go.Proofs.Ytgclgmfmcgacdaa

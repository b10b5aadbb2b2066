/- Proved: lemmas of one statement's proof, merged by program: what each part proves stands ahead of it. Conditions: those that the lemmas name. -/
import Derived.Test.YtgclgmfmcgacdaaM8
import Derived.Room.AppendZeros

/- Proved: what shards of package table answers. Conditions: those that the theorems name. -/
namespace Go.Proofs.Ytgclgmfmcgacdaa
open Go.ChangeShapes Go.WideShapes Go.ChangeAt Go.RowKit

/-- how much memory there is (by a name that no generalizing meets). -/
def szQ (w : World) : Nat := w.heap.size
theorem st_body' (l : List Shd) {j : Nat} (h : j < l.length) : st_ (l.map (·.2)) j = (sh_ l j).2 := by
  rw [st_at (by simpa using h), sh_at h]; simp
theorem Try.infoShd : (Try.prog.info? 32).map (fun i => (i.zero, i.size, i.bytes)) = some (some (.agg #[.int .i64 0, .string S0]), 2, 24) := by kernel_rfl
theorem hcells_one (l : List Shd) : ∀ u ∈ hcells l, u.oneCell' = true := by
  induction l with
  | nil => intro u hu; simp [hcells] at hu
  | cons x r ih =>
    intro u hu
    simp only [hcells, List.mem_cons] at hu
    rcases hu with rfl | rfl | hu
    · rfl
    · rfl
    · exact ih u hu
/-- one shard more. -/
theorem sh_append {w : World} {base n : Nat} {v : Value} {l : List Shd} (h : w.ownsRow base 32 2 v n (hcells l)) (hb : base ≤ w.heap.size) (hn : n ≤ 65536) (i : Int) (s : ByteArray) (a : Addr) (h0 : w.cell? (a.add 0) = some (.int .i64 i)) (h1 : w.cell? (a.add 1) = some (.string s)) (cp : Nat) (ty : TypeId) :
    ∃ v' w', (Builtin.append_ #[47, 47] ty #[v, .slice (some a) 1 cp]).run Try.prog w = .ok v' w' ∧ w'.ownsRow base 32 2 v' (n + 1) (hcells (l ++ [(i, s)])) ∧ Tn (fun g => base ≤ g) w w' := by
  obtain ⟨j, hi, hz0, hz1, hz2⟩ := info_parts Try.infoShd
  have ht := Try.underlying47
  have hnews : ∀ j u, (hcells [(i, s)])[j]? = some u → w.cell? (a.add j) = some u := fun j u hj => by
    match j, hj with
    | 0, hj => simp [hcells] at hj; subst hj; exact h0
    | 1, hj => simp [hcells] at hj; subst hj; exact h1
    | j + 2, hj => simp [hcells] at hj
  obtain ⟨v', w', hrun, r1, r2, _⟩ := run_append_own (P := Try.prog) w base _ ty _ j _ 2 24 ht hi hz0 hz1 hz2 rfl (by omega) v n (hcells l) h a 1 cp (hcells [(i, s)]) rfl hnews (hcells_one _) (by unfold maxLen; omega) (by omega) hb
  rw [← hcells_app] at r1
  exact ⟨v', w', hrun, r1, tn_grown r2 (fun g e => (h.lt g e).1)⟩
theorem own_tn {w w' : World} {base n : Nat} {v : Value} {l : List Shd} {c : Nat → Prop} (h : w.ownsRow base 32 2 v n (hcells l)) (k : Tn c w w') (hc : ∀ g, base ≤ g → g < w.heap.size → ¬ c g) : w'.ownsRow base 32 2 v n (hcells l) := by
  refine ⟨h.1, ?_⟩
  rcases h.2 with hn | ⟨g, cap, cur, rfl, hb, hg, r⟩
  · exact .inl hn
  · have hl := (Array.getElem?_eq_some_iff.1 hg).1
    exact .inr ⟨g, cap, cur, rfl, hb, (k.block g hl (hc g hb hl)).trans hg, r⟩
theorem own_form {w : World} {base n : Nat} {v : Value} {l : List Shd} (h : w.ownsRow base 32 2 v n (hcells l)) : ∃ A cap, v = .slice A n cap := by
  rcases h.2 with ⟨rfl, h0⟩ | ⟨g, cap, cur, rfl, _⟩
  · exact ⟨_, _, by rw [show n = 0 by simpa using h0]⟩
  · exact ⟨_, _, rfl⟩
/-- shards come back. -/
def GivesH (w : World) (l : List Shd) (e : Ending) (w' : World) : Prop := ∃ v, e = .returned v ∧ w'.ownsRow w.heap.size 32 2 v l.length (hcells l) ∧ Tn Nil w w'
set_option maxRecDepth 100000 in
set_option maxHeartbeats 400000 in
theorem shards_none (w : World) : Calls Try.prog 31 #[.pointer none] w (GivesH w []) := by
  go_enter Try.func31, Try.ntmps31
  go_wp2_with fail
  go_ret
  exact ⟨_, rfl, World.ownsRow_nil w _ _ 2, Tn.refl _ _⟩
set_option maxRecDepth 100000 in
set_option maxHeartbeats 1600000 in
theorem nd_shards {w : World} {p need : Nat} {k : Ky} {s : ByteArray} {v : Value} {a b : Option Nat} {l : List Shd} {c : Nat → Prop} (h : Nd w p k need s v a b) (hs : Idx s l) (ho : ShOk l) (hr : Sr w c v (l.map (·.2))) (hl : 1 ≤ l.length ∧ l.length ≤ 32) :
    Calls Try.prog 31 #[ptv p] w (GivesH w l) := by
  obtain ⟨g, cap, cur, rfl, _, hgl, _⟩ := hr.form (by rw [List.length_map]; omega)
  rw [List.length_map] at h hr
  have HN := Lib.hid h
  have HR := Lib.hid hr
  have HS := Lib.hid hs
  have HO := Lib.hid ho
  have HL := Lib.hid hl
  have HP : Hid (p < szQ w) := Lib.hid (At.lt h)
  have HGL : Hid (g < szQ w) := Lib.hid hgl
  have HT := Lib.hid (plS_top ho)
  have hl1 : (l.length : Int) ≤ 32 := by omega
  have hz := plS_low ho
  clear h hs hr ho hl hgl
  go_enter Try.func31, Try.ntmps31
  go_wp2_with fail
  go_loopw [3, 7] (fun u j wr => ∃ m : Nat, m ≤ 255 ∧ j = .int .i64 m ∧ wr.ownsRow (szQ w) 32 2 u (plS l (m : Int)) (hcells (l.take (plS l (m : Int)))) ∧ Tn Nil w wr) (fun _ j _ => 256 - (intOf j).toNat)
  case atStart => exact ⟨0, by omega, rfl, by rw [show ((0 : Nat) : Int) = 0 from rfl, hz]; exact World.ownsRow_nil w _ _ 2, Tn.refl _ _⟩
  case round =>
    clear hz
    obtain ⟨m, hm, rfl, hown, ht⟩ := hrel
    obtain ⟨A, cp, rfl⟩ := own_form hown
    have HW := Lib.hid hown
    have HTn := Lib.hid ht
    have HNr := Lib.hid (HN.out.tn ht (fun e => e))
    have HRr := Lib.hid (HR.out.tn ht (fun _ _ _ e => e))
    clear ht hown
    by_cases hlt : m < 255
    · have hlt' : (m : Int) < 255 := by omega
      have hm0 : (0 : Int) ≤ (m : Int) := Int.natCast_nonneg _
      have HX := Lib.hid (plS_next HO.out (m : Int))
      have HH := Lib.hid (fun w => has_any s m w)
      have HV := Lib.hid (HS.out.has m (by omega))
      have HPA := Lib.hid (fun h => plS_at HO.out (i := (m : Int)) h)
      have HPT := Lib.hid (fun h => plS_take HO.out (i := (m : Int)) h)
      have HLE := Lib.hid (plS_le l (m : Int))
      have k3 := At.cell HNr.out 3 rfl
      rw [HV.out] at HH
      clear hm HV
      cases hv : anyS l (m : Int) with
      | false =>
        have HE : Hid (plS l ((m : Int) + 1) = plS l (m : Int)) := Lib.hid (by rw [HX.out, if_neg (by simp [hv])]; rfl)
        rw [hv] at HH
        clear hv HX HPA HPT
        generalize plS l (m : Int) = q at *
        go_wp2_with fail
        refine (HH.out _).mono ?_; rintro e w2 ⟨rfl, g2⟩
        have TD := tn_below Nil (two_drawn (B := wr.heap.size) g2)
        have HT2 := Lib.hid (HTn.out.trans TD)
        have HW2 := Lib.hid (own_tn HW.out TD (fun _ _ _ e => e))
        clear g2 k3 TD
        go_wp2_with fail
        go_roundw
        case rel => exact ⟨m + 1, by omega, by go_num, by rw [show ((m + 1 : Nat) : Int) = (m : Int) + 1 by omega, HE.out]; exact HW2.out, HT2.out⟩
        case measure => simp [intOf]; omega
      | true =>
        have HE : Hid (plS l ((m : Int) + 1) = plS l (m : Int) + 1) := Lib.hid (by rw [HX.out, if_pos hv])
        have hq1 := (HPA.out hv).1
        have HTK := Lib.hid (HPT.out hv)
        rw [hv] at HH
        clear hv HX HPA HPT
        have hq1' : ((plS l (m : Int) : Nat) : Int) < (l.length : Int) := by omega
        have hq0 : (0 : Int) ≤ ((plS l (m : Int) : Nat) : Int) := Int.natCast_nonneg _
        have hq2 := hq1
        go_wp2_with fail
        refine (HH.out _).mono ?_; rintro e w2 ⟨rfl, g2⟩
        have TD := tn_below Nil (two_drawn (B := wr.heap.size) g2)
        have HT2 := Lib.hid (HTn.out.trans TD)
        have HW2 := Lib.hid (own_tn HW.out TD (fun _ _ _ e => e))
        have HN2 := Lib.hid (HNr.out.tn TD (fun e => e))
        have HR2 := Lib.hid (HRr.out.tn TD (fun _ _ _ e => e))
        have gq := HR2.out.cell (j := plS l (m : Int)) (by rw [List.length_map]; exact hq1)
        rw [st_body' l hq1] at gq
        have k4 := At.cell HN2.out 4 rfl
        clear g2 k3 TD hq1
        have HTA : Hid (Tn Nil w2 (w2.alloc (.cells #[.int .i64 m, .string (sh_ l (plS l (m : Int))).2] 32))) := Lib.hid ((Tn.refl Nil w2).alloc _)
        have hax := At.new w2 32 [.int .i64 m, .string (sh_ l (plS l (m : Int))).2]
        obtain ⟨v', w3, hrun, hown3, ht3⟩ := sh_append (own_tn HW2.out HTA.out (fun _ _ _ e => e)) (Nat.le_trans HT2.out.size HTA.out.size) (by omega) (m : Int) (sh_ l (plS l (m : Int))).2 ⟨w2.heap.size, 0, none⟩ (hax.cell 0 rfl) (hax.cell 1 rfl) 1 47
        have HW3 := Lib.hid hown3
        rw [← HTK.out] at HW3
        have HT3 : Hid (Tn Nil w w3) := Lib.hid ((HT2.out.trans HTA.out).trans' ht3 fun i hi e => absurd hi (Nat.not_lt.2 e))
        clear hax hown3 ht3 hq2 HTK HTA HLE
        generalize (sh_ l (plS l (m : Int))).2 = t at *
        generalize plS l (m : Int) = q at *
        go_wp2_with (at_builtin; refine Lib.wpList_append_run _ rfl _ _ _ _ rfl _ _ rfl rfl _ _ hrun ?_)
        go_roundw
        case rel => exact ⟨m + 1, by omega, by go_num, by rw [show ((m + 1 : Nat) : Int) = (m : Int) + 1 by omega, HE.out]; rw [HE.out] at HW3; exact HW3.out, HT3.out⟩
        case measure => simp [intOf]; omega
    · obtain rfl : m = 255 := by omega
      have hq : plS l ((255 : Nat) : Int) = l.length := HT.out
      generalize plS l ((255 : Nat) : Int) = q at *
      subst hq
      have hw := HW.out
      rw [List.take_length] at hw
      have HW' := Lib.hid hw
      clear hw
      go_wp2_with fail
      go_ret
      exact ⟨_, rfl, HW'.out, HTn.out⟩
end Go.Proofs.Ytgclgmfmcgacdaa

/- Proved: what role of package table answers. Conditions: those that the theorems name. -/
namespace Go.Proofs.Ytgclgmfmcgacdaa
open Go.ChangeShapes Go.WideShapes Go.ChangeAt Go.RowKit

inductive Role
  | first
  | known
  | unlike
  | wanted (n : Nat)
def Role.val : Role → Value
  | .first => .iface 82 (.agg #[])
  | .known => .iface 88 (.agg #[])
  | .unlike => .iface 102 (.agg #[])
  | .wanted n => .iface 86 (.agg #[.int .i64 n])
/-- what a shard is to an entry. -/
def roleR (l : List Shd) (need : Nat) (nd : Int) (x : Shd) : Role :=
  if l.length = need then .known
  else if nd = need ∧ x.2.size = (sh_ l 0).2.size then
    if anyS l x.1 = true then (if (sh_ l (plS l x.1)).2 = x.2 then .known else .unlike) else .wanted (plS l x.1)
  else .unlike
theorem st_body (l : List Shd) {j : Nat} (h : j < l.length) : st_ (l.map (·.2)) j = (sh_ l j).2 := by
  rw [st_at (by simpa using h), sh_at h]; simp
theorem str_same (t : ByteArray) : (t.toList == t.toList) = true := by simp

set_option maxRecDepth 100000 in
set_option maxHeartbeats 800000 in
theorem role_none (w : World) (nd i : Int) (t : ByteArray) :
    Calls Try.prog 27 #[.pointer none, .int .i64 nd, .agg #[.int .i64 i, .string t]] w fun e w' => e = .returned Role.first.val ∧ Tn Nil w w' := by
  have HT : Hid (Tn Nil w (w.alloc (.cells #[.int .i64 i, .string t] 32))) := Lib.hid ((Tn.refl _ w).alloc _)
  go_enter Try.func27, Try.ntmps27
  go_wp2_with fail
  go_ret
  exact ⟨rfl, HT.out⟩
section
variable {w : World} {p need : Nat} {k : Ky} {s : ByteArray} {v : Value} {a b : Option Nat} {l : List Shd} {c : Nat → Prop}
set_option maxRecDepth 100000 in
set_option maxHeartbeats 800000 in
theorem role_ready (h : Nd w p k need s v a b) (hr : Sr w c v (l.map (·.2))) (hl : 1 ≤ l.length ∧ l.length ≤ 32) (hn : l.length = need) (i : Int) (t : ByteArray) (nd : Int) :
    Calls Try.prog 27 #[ptv p, .int .i64 nd, .agg #[.int .i64 i, .string t]] w fun e w' => e = .returned Role.known.val ∧ Tn Nil w w' := by
  obtain ⟨g, cap, cur, rfl, _⟩ := hr.form (by rw [List.length_map]; omega)
  rw [List.length_map, hn] at h
  have HT : Hid (Tn Nil w (w.alloc (.cells #[.int .i64 i, .string t] 32))) := Lib.hid ((Tn.refl _ w).alloc _)
  have HR := Lib.hid (nd_ready (h.tn HT.out (fun e => e)) rfl)
  rw [decide_eq_true rfl] at HR
  clear h hr hl hn
  go_enter Try.func27, Try.ntmps27
  go_wp2_with fail
  generalize w.heap.size = bx at *
  generalize w.alloc (.cells #[.int .i64 i, .string t] 32) = w1 at *
  refine HR.out.mono ?_; rintro e w2 ⟨rfl, g2⟩
  have HT2 := Lib.hid (HT.out.trans (tn_below Nil (two_drawn (B := w1.heap.size) g2)))
  clear g2
  go_wp2_with fail
  go_ret
  exact ⟨rfl, HT2.out⟩
set_option maxRecDepth 100000 in
set_option maxHeartbeats 1600000 in
theorem role_unlike (h : Nd w p k need s v a b) (hr : Sr w c v (l.map (·.2))) (hl : 1 ≤ l.length ∧ l.length ≤ 32) (hn : l.length ≠ need) (i : Int) (t : ByteArray) (nd : Int) (hu : ¬ (nd = need ∧ t.size = (sh_ l 0).2.size)) :
    Calls Try.prog 27 #[ptv p, .int .i64 nd, .agg #[.int .i64 i, .string t]] w fun e w' => e = .returned Role.unlike.val ∧ Tn Nil w w' := by
  obtain ⟨g, cap, cur, rfl, _, hgl, _, _, _, _, hc⟩ := hr.form (by rw [List.length_map]; omega)
  have g0 := hc 0 (by rw [List.length_map]; omega)
  rw [st_body l (by omega)] at g0
  rw [List.length_map] at h
  clear hc
  have HT : Hid (Tn Nil w (w.alloc (.cells #[.int .i64 i, .string t] 32))) := Lib.hid ((Tn.refl _ w).alloc _)
  have h1 := h.tn HT.out (fun e => e)
  have HR := Lib.hid (nd_ready h1 rfl)
  have H1 := Lib.hid h1
  rw [decide_eq_false hn] at HR
  have HG : Hid ((w.alloc (.cells #[.int .i64 i, .string t] 32)).cell? ⟨g, 0, none⟩ = some (.string (sh_ l 0).2)) := Lib.hid (by
    rw [World.cell?_alloc_past _ _ _ hgl]; exact g0)
  have HX := Lib.hid (At.new w 32 [.int .i64 i, .string t])
  have hl0 : (0 : Int) < (l.length : Int) := by omega
  have hl1 : (l.length : Int) ≤ 32 := by omega
  clear h hr hn h1 g0 hgl
  generalize (sh_ l 0).2 = t0 at *
  generalize l.length = m at *
  clear hl
  go_enter Try.func27, Try.ntmps27
  go_wp2_with fail
  generalize w.heap.size = bx at *
  generalize w.alloc (.cells #[.int .i64 i, .string t] 32) = w1 at *
  refine HR.out.mono ?_; rintro e w2 ⟨rfl, g2⟩
  have HT2 := Lib.hid (HT.out.trans (tn_below Nil (two_drawn (B := w1.heap.size) g2)))
  obtain ⟨q, rfl⟩ := g2
  have HH2 : Tn Nil w1 (w1.drewN q) := (Tn.refl Nil w1).drewN q
  have H2 := H1.out.tn HH2 (fun e => e)
  have c2 := At.cell H2 2 rfl
  have c4 := At.cell H2 4 rfl
  have x1 := (HX.out.tn HH2 (fun e => e)).cell 1 rfl
  have g0 : (w1.drewN q).cell? ⟨g, 0, none⟩ = some (.string t0) := HG.out
  clear HH2 H2 H1 HX HG HR HT
  generalize w1.drewN q = w2 at *
  by_cases hd : nd = need
  · have hz : ¬ (t.size : Int) = (t0.size : Int) := by
      have : t.size ≠ t0.size := fun e => hu ⟨hd, e⟩
      omega
    have hz' : ((t.size : Int) == (t0.size : Int)) = false := by simp [hz]
    have hz2 : ((t.size : Int) != (t0.size : Int)) = true := by simp [hz]
    subst hd
    clear hu
    generalize (need : Int) = nn at *
    go_wp2_with fail
    go_quiet (fail)
    go_wp2_with fail
    go_ret
    exact ⟨rfl, HT2.out.drewN _⟩
  · have hd' : (nd == (need : Int)) = false := by simp [hd]
    have hd2 : (nd != (need : Int)) = true := by simp [hd]
    clear hu
    generalize (need : Int) = nn at *
    go_wp2_with fail
    go_quiet (fail)
    go_wp2_with fail
    go_ret
    exact ⟨rfl, HT2.out.drewN _⟩
set_option maxRecDepth 100000 in
set_option maxHeartbeats 1600000 in
theorem role_more (h : Nd w p k need s v a b) (hs : Idx s l) (ho : ShOk l) (hr : Sr w c v (l.map (·.2))) (hl : 1 ≤ l.length ∧ l.length ≤ 32) (hn : l.length ≠ need) (i : Nat) (hi : i ≤ 254) (t : ByteArray) (hu : t.size = (sh_ l 0).2.size) (R : Role)
    (hR : R = if anyS l (i : Int) = true then (if (sh_ l (plS l (i : Int))).2 = t then .known else .unlike) else .wanted (plS l (i : Int))) :
    Calls Try.prog 27 #[ptv p, .int .i64 need, .agg #[.int .i64 i, .string t]] w fun e w' => e = .returned R.val ∧ Tn Nil w w' := by
  obtain ⟨g, cap, cur, rfl, _⟩ := hr.form (by rw [List.length_map]; omega)
  rw [List.length_map] at h hr
  have HT : Hid (Tn Nil w (w.alloc (.cells #[.int .i64 i, .string t] 32))) := Lib.hid ((Tn.refl _ w).alloc _)
  have h1 := h.tn HT.out (fun e => e)
  have HR := Lib.hid (nd_ready h1 rfl)
  have H1 := Lib.hid h1
  rw [decide_eq_false hn] at HR
  have HS := Lib.hid (hr.tn HT.out (fun _ _ _ e => e))
  have HX := Lib.hid (At.new w 32 [.int .i64 i, .string t])
  have HP := Lib.hid (fun W (h : Nd W p k need s (.slice (some ⟨g, 0, none⟩) l.length cap) a b) => nd_place h hs ho i (by omega))
  have HV := Lib.hid (hs.has i (by omega))
  have HH := Lib.hid (fun w => has_any s i w)
  rw [HV.out] at HH
  have HO := Lib.hid (fun e => plS_at (i := (i : Int)) ho e)
  have HLE := Lib.hid (plS_le l (i : Int))
  have hl0 : (0 : Int) < (l.length : Int) := by omega
  have hl1 : (l.length : Int) ≤ 32 := by omega
  have hi0 : (0 : Int) ≤ (i : Int) := Int.natCast_nonneg _
  have hi1 : (i : Int) ≤ 254 := by omega
  have HL := Lib.hid hl
  have HU := Lib.hid hu
  clear h hr hn h1 hs ho hu HV hl hi
  go_enter Try.func27, Try.ntmps27
  go_wp2_with fail
  generalize w.heap.size = bx at *
  generalize w.alloc (.cells #[.int .i64 i, .string t] 32) = w1 at *
  refine HR.out.mono ?_; rintro e w2 ⟨rfl, g2⟩
  have HT2 := Lib.hid (tn_below Nil (two_drawn (B := w1.heap.size) g2))
  clear g2
  have HTw := Lib.hid (HT.out.trans HT2.out)
  have HN2 := Lib.hid (H1.out.tn HT2.out (fun e => e))
  have HX2 := Lib.hid (HX.out.tn HT2.out (fun e => e))
  have HS2 := Lib.hid (HS.out.tn HT2.out (fun _ _ _ e => e))
  clear HR HX H1 HT HT2 HS
  have c2 := At.cell HN2.out 2 rfl
  have c4 := At.cell HN2.out 4 rfl
  have x1 := HX2.out.cell 1 rfl
  have g0 := HS2.out.cell (j := 0) (by rw [List.length_map]; have := HL.out; omega)
  rw [st_body l (by have := HL.out; omega)] at g0
  have hz2 : ((t.size : Int) != ((sh_ l 0).2.size : Int)) = false := by rw [HU.out]; simp
  generalize (sh_ l 0).2 = t0 at *
  go_wp2_with fail
  go_quiet (fail)
  have HT3 : Hid (Tn Nil w2 (w2.drewN nq)) := Lib.hid ((Tn.refl _ w2).drewN nq)
  have HTw3 := Lib.hid (HTw.out.trans HT3.out)
  have HN3 := Lib.hid (HN2.out.tn HT3.out (fun e => e))
  have HX3 := Lib.hid (HX2.out.tn HT3.out (fun e => e))
  have HS3 := Lib.hid (HS2.out.tn HT3.out (fun _ _ _ e => e))
  clear c2 c4 x1 g0 hz2 HTw HN2 HX2 HS2 HT3 HU
  generalize w2.drewN nq = w3 at *
  have x0 := HX3.out.cell 0 rfl
  go_wp2_with fail
  refine (HP.out _ HN3.out).mono ?_; rintro e w4 ⟨rfl, ht4⟩
  have HTw4 := Lib.hid (HTw3.out.trans ht4)
  have HN4 := Lib.hid (HN3.out.tn ht4 (fun e => e))
  have HX4 := Lib.hid (HX3.out.tn ht4 (fun e => e))
  have HS4 := Lib.hid (HS3.out.tn ht4 (fun _ _ _ e => e))
  clear x0 HTw3 HN3 HX3 HS3 ht4 HP
  have x0 := HX4.out.cell 0 rfl
  have c3 := At.cell HN4.out 3 rfl
  cases hv : anyS l (i : Int) with
  | false =>
    rw [hv, if_neg (by decide)] at hR
    rw [hv] at HH
    clear hv HO
    generalize plS l (i : Int) = q at *
    subst hR
    go_wp2_with fail
    go_quiet ((go_at_call 41; exact Calls.quiet_of (HH.out _)))
    go_wp2_with fail
    go_ret
    exact ⟨rfl, HTw4.out.drewN _⟩
  | true =>
    rw [hv, if_pos rfl] at hR
    rw [hv] at HH
    obtain ⟨hq1, _⟩ := HO.out hv
    have gq := HS4.out.cell (j := plS l (i : Int)) (by rw [List.length_map]; exact hq1)
    rw [st_body l hq1] at gq
    have HGQ := Lib.hid gq
    have hq1' : ((plS l (i : Int) : Nat) : Int) < (l.length : Int) := by omega
    have hq0 : (0 : Int) ≤ ((plS l (i : Int) : Nat) : Int) := Int.natCast_nonneg _
    clear hv HO hq1 gq HLE
    generalize (sh_ l (plS l (i : Int))).2 = u at *
    generalize plS l (i : Int) = q at *
    go_wp2_with fail
    go_quiet ((go_at_call 41; exact Calls.quiet_of (HH.out _)))
    have HT5 : Hid (Tn Nil w4 (w4.drewN nq)) := Lib.hid ((Tn.refl _ w4).drewN nq)
    have HTw5 := Lib.hid (HTw4.out.trans HT5.out)
    have HN5 := Lib.hid (HN4.out.tn HT5.out (fun e => e))
    have HX5 := Lib.hid (HX4.out.tn HT5.out (fun e => e))
    have HG5 : Hid ((w4.drewN nq).cell? ⟨g, q, none⟩ = some (.string u)) := HGQ
    clear x0 c3 HTw4 HN4 HX4 HS4 HGQ HT5
    generalize w4.drewN nq = w5 at *
    have x1 := HX5.out.cell 1 rfl
    have c4 := At.cell HN5.out 4 rfl
    have gq := HG5.out
    by_cases hd : u = t
    · rw [if_pos hd] at hR
      subst hR
      subst hd
      have hss := str_same u
      go_wp2_with fail
      go_quiet (fail)
      go_wp2_with fail
      go_ret
      exact ⟨rfl, HTw5.out.drewN _⟩
    · rw [if_neg hd] at hR
      subst hR
      have hss := list_ne hd
      clear hd
      go_wp2_with fail
      go_quiet (fail)
      go_wp2_with fail
      go_ret
      exact ⟨rfl, HTw5.out.drewN _⟩
/-- what a shard is to an entry that is there. -/
theorem nd_role (h : Nd w p k need s v a b) (hs : Idx s l) (ho : ShOk l) (hr : Sr w c v (l.map (·.2))) (hl : 1 ≤ l.length ∧ l.length ≤ 32) (i : Nat) (hi : i ≤ 254) (t : ByteArray) (nd : Int) :
    Calls Try.prog 27 #[ptv p, .int .i64 nd, .agg #[.int .i64 i, .string t]] w fun e w' => e = .returned (roleR l need nd ((i : Int), t)).val ∧ Tn Nil w w' := by
  unfold roleR
  by_cases hn : l.length = need
  · rw [if_pos hn]
    exact role_ready h hr hl hn i t nd
  · rw [if_neg hn]
    by_cases hu : nd = need ∧ t.size = (sh_ l 0).2.size
    · rw [if_pos hu]
      rw [hu.1]
      exact role_more h hs ho hr hl hn i hi t hu.2 _ rfl
    · rw [if_neg hu]
      exact role_unlike h hr hl hn i t nd hu
end
end Go.Proofs.Ytgclgmfmcgacdaa
